import Derived.Test.YtlidhdljgnijaaaDoorRows
/-
  TREES AS FUNCTIONS: in which group an item is, the levels with one more item and without one, spans.
-/
set_option linter.unusedVariables false
namespace Go.Proofs.YtlidhdljgnijaaaDoor

/-- how many members are below a number, and whether it is one -/
def belT (ids : List Int) (id : Int) : Nat := ids.countP (fun x => decide (x < id))
def isT (ids : List Int) (id : Int) : Bool := ids.any (fun x => x == id)

/-- in which group the item at a place is -/
def grpT : List Nat → Nat → Nat
  | [], _ => 0
  | n :: l, a => if a < n then 0 else grpT l (a - n) + 1
/-- how many items stand ahead of a group -/
def startT (l : List Nat) (k : Nat) : Nat := (l.take k).sum
def two3 (l : List Nat) : Prop := ∀ n ∈ l, n = 2 ∨ n = 3
/-- levels over so many nodes may be -/
def lvOK : Nat → List (List Nat) → Prop
  | many, [] => many ≤ 1
  | many, l :: ls => 2 ≤ many ∧ two3 l ∧ l.sum = many ∧ lvOK l.length ls

theorem startT_zero (l : List Nat) : startT l 0 = 0 := by simp [startT]
theorem startT_succ (l : List Nat) {k : Nat} (h : k < l.length) : startT l (k + 1) = startT l k + l[k] := by
  unfold startT
  rw [List.take_succ_eq_append_getElem h, List.sum_append]
  simp
theorem startT_all (l : List Nat) : startT l l.length = l.sum := by simp [startT]
theorem startT_le (l : List Nat) (k : Nat) : startT l k ≤ l.sum := by
  have := List.take_append_drop k l
  have h : (l.take k ++ l.drop k).sum = l.sum := by rw [this]
  rw [List.sum_append] at h
  unfold startT
  omega
theorem startT_mono (l : List Nat) {j k : Nat} (h : j ≤ k) : startT l j ≤ startT l k := by
  have e : l.take j = (l.take k).take j := by rw [List.take_take, Nat.min_eq_left h]
  unfold startT
  rw [e]
  exact startT_le (l.take k) j
theorem grpT_cons (n : Nat) (l : List Nat) (a : Nat) : grpT (n :: l) a = if a < n then 0 else grpT l (a - n) + 1 := rfl
theorem startT_cons (n : Nat) (l : List Nat) (k : Nat) : startT (n :: l) (k + 1) = n + startT l k := by simp [startT]
theorem grpT_spec : ∀ (l : List Nat) (a : Nat), a < l.sum → grpT l a < l.length ∧ startT l (grpT l a) ≤ a ∧ a < startT l (grpT l a + 1)
  | [], a, h => by simp at h
  | n :: l, a, h => by
    rw [grpT_cons]
    rw [List.sum_cons] at h
    by_cases ha : a < n
    · rw [if_pos ha]
      refine ⟨by simp, by simp [startT], ?_⟩
      rw [startT_cons]
      omega
    · rw [if_neg ha]
      obtain ⟨h1, h2, h3⟩ := grpT_spec l (a - n) (by omega)
      refine ⟨by simp only [List.length_cons]; omega, ?_, ?_⟩
      · rw [startT_cons]; omega
      · rw [startT_cons]; omega
theorem grpT_unique {l : List Nat} {a k : Nat} (hk : k < l.length) (h1 : startT l k ≤ a) (h2 : a < startT l (k + 1)) : grpT l a = k := by
  have hs : a < l.sum := by
    have := startT_le l (k + 1)
    omega
  obtain ⟨g1, g2, g3⟩ := grpT_spec l a hs
  rcases Nat.lt_trichotomy (grpT l a) k with h | h | h
  · have := startT_mono l (show grpT l a + 1 ≤ k by omega)
    omega
  · exact h
  · have := startT_mono l (show k + 1 ≤ grpT l a by omega)
    omega

/-- the levels of a tree with one more item, in the group of the one at a place -/
def insL : List (List Nat) → Nat → List (List Nat)
  | [], _ => [[2]]
  | l :: ls, a => if l[grpT l a]? = some 2 then l.set (grpT l a) 3 :: ls else (l.take (grpT l a) ++ 2 :: 2 :: l.drop (grpT l a + 1)) :: insL ls (grpT l a)
/-- the levels of a tree without the item at a place -/
def delL : List (List Nat) → Nat → List (List Nat)
  | [], _ => []
  | l :: ls, a =>
    if l[grpT l a]? = some 3 then l.set (grpT l a) 2 :: ls
    else match ls with
      | [] => []
      | l2 :: _ =>
        if startT l2 (grpT l2 (grpT l a)) < grpT l a then
          if l[grpT l a - 1]? = some 3 then ((l.set (grpT l a - 1) 2).set (grpT l a) 2) :: ls
          else ((l.set (grpT l a - 1) 3).eraseIdx (grpT l a)) :: delL ls (grpT l a)
        else if l[grpT l a + 1]? = some 3 then ((l.set (grpT l a + 1) 2).set (grpT l a) 2) :: ls
        else ((l.set (grpT l a + 1) 3).eraseIdx (grpT l a)) :: delL ls (grpT l a)

theorem two3_set {l : List Nat} (h : two3 l) (k : Nat) {n : Nat} (hn : n = 2 ∨ n = 3) : two3 (l.set k n) := by
  intro x hx
  rcases List.mem_or_eq_of_mem_set hx with hx | hx
  · exact h x hx
  · rw [hx]; exact hn
theorem two3_erase {l : List Nat} (h : two3 l) (k : Nat) : two3 (l.eraseIdx k) := fun x hx => h x (List.mem_of_mem_eraseIdx hx)
theorem two3_get {l : List Nat} (h : two3 l) {k : Nat} (hk : k < l.length) : l[k] = 2 ∨ l[k] = 3 := h _ (List.getElem_mem hk)
theorem sumT_set : ∀ (l : List Nat) (k n : Nat) (hk : k < l.length), (l.set k n).sum + l[k] = l.sum + n
  | [], k, n, hk => by simp at hk
  | x :: l, 0, n, hk => by simp only [List.set_cons_zero, List.sum_cons, List.getElem_cons_zero]; omega
  | x :: l, k + 1, n, hk => by
    have := sumT_set l k n (by simpa using hk)
    simp only [List.set_cons_succ, List.sum_cons, List.getElem_cons_succ]
    omega
theorem sumT_erase : ∀ (l : List Nat) (k : Nat) (hk : k < l.length), (l.eraseIdx k).sum + l[k] = l.sum
  | [], k, hk => by simp at hk
  | x :: l, 0, hk => by simp only [List.eraseIdx_zero, List.tail_cons, List.getElem_cons_zero, List.sum_cons]; omega
  | x :: l, k + 1, hk => by
    have := sumT_erase l k (by simpa using hk)
    simp only [List.eraseIdx_cons_succ, List.sum_cons, List.getElem_cons_succ]
    omega
/-- a group of four as two of two -/
def splitT (l : List Nat) (k : Nat) : List Nat := l.take k ++ 2 :: 2 :: l.drop (k + 1)
theorem splitT_len {l : List Nat} {k : Nat} (hk : k < l.length) : (splitT l k).length = l.length + 1 := by
  simp only [splitT, List.length_append, List.length_cons, List.length_take, List.length_drop]
  omega
theorem splitT_sum {l : List Nat} {k : Nat} (hk : k < l.length) : (splitT l k).sum + l[k] = l.sum + 4 := by
  have h := List.take_append_drop k l
  have h2 : l.drop k = l[k] :: l.drop (k + 1) := List.drop_eq_getElem_cons hk
  have h3 : (l.take k ++ l.drop k).sum = l.sum := by rw [h]
  rw [h2, List.sum_append, List.sum_cons] at h3
  simp only [splitT, List.sum_append, List.sum_cons]
  omega
theorem splitT_two3 {l : List Nat} (h : two3 l) (k : Nat) : two3 (splitT l k) := by
  intro x hx
  simp only [splitT, List.mem_append, List.mem_cons] at hx
  rcases hx with hx | hx | hx | hx
  · exact h x (List.mem_of_mem_take hx)
  · exact .inl hx
  · exact .inl hx
  · exact h x (List.mem_of_mem_drop hx)
theorem two3_len {l : List Nat} (h : two3 l) : 2 * l.length ≤ l.sum ∧ l.sum ≤ 3 * l.length := by
  induction l with
  | nil => simp
  | cons x l ih =>
    have hx := h x (by simp)
    have := ih (fun y hy => h y (by simp [hy]))
    simp only [List.length_cons, List.sum_cons]
    omega
theorem getT_two {l : List Nat} (h : two3 l) {k : Nat} (hk : k < l.length) (hn : ¬ l[k]? = some 2) : l[k] = 3 := by
  rcases two3_get h hk with e | e
  · exact absurd (by rw [List.getElem?_eq_getElem hk, e]) hn
  · exact e
theorem getT_three {l : List Nat} (h : two3 l) {k : Nat} (hk : k < l.length) (hn : ¬ l[k]? = some 3) : l[k] = 2 := by
  rcases two3_get h hk with e | e
  · exact e
  · exact absurd (by rw [List.getElem?_eq_getElem hk, e]) hn
theorem getT_of {l : List Nat} {k n : Nat} (h : l[k]? = some n) : ∃ hk : k < l.length, l[k] = n := List.getElem?_eq_some_iff.1 h

theorem insL_cons (l : List Nat) (ls : List (List Nat)) (a : Nat) : insL (l :: ls) a = if l[grpT l a]? = some 2 then l.set (grpT l a) 3 :: ls else splitT l (grpT l a) :: insL ls (grpT l a) := rfl
/-- with one more item the levels may be -/
theorem insL_ok : ∀ (lv : List (List Nat)) (many a : Nat), lvOK many lv → a < many → lvOK (many + 1) (insL lv a)
  | [], many, a, h, ha => by
    have : many = 1 := by have : many ≤ 1 := h; omega
    subst this
    exact ⟨by omega, by intro x hx; simp at hx; exact .inl hx, by simp, by simp [lvOK]⟩
  | l :: ls, many, a, ⟨h1, h2, h3, h4⟩, ha => by
    obtain ⟨g1, g2, g3⟩ := grpT_spec l a (by omega)
    rw [insL_cons]
    by_cases hk : l[grpT l a]? = some 2
    · rw [if_pos hk]
      obtain ⟨_, hk2⟩ := getT_of hk
      have := sumT_set l (grpT l a) 3 g1
      exact ⟨by omega, two3_set h2 _ (.inr rfl), by omega, by rw [List.length_set]; exact h4⟩
    · rw [if_neg hk]
      have hk2 := getT_two h2 g1 hk
      have hs := splitT_sum g1
      refine ⟨by omega, splitT_two3 h2 _, by omega, ?_⟩
      rw [splitT_len g1]
      exact insL_ok ls l.length (grpT l a) h4 g1

theorem delL_two (l l2 : List Nat) (ls : List (List Nat)) (a : Nat) : delL (l :: l2 :: ls) a =
    if l[grpT l a]? = some 3 then l.set (grpT l a) 2 :: l2 :: ls
    else if startT l2 (grpT l2 (grpT l a)) < grpT l a then
          if l[grpT l a - 1]? = some 3 then ((l.set (grpT l a - 1) 2).set (grpT l a) 2) :: l2 :: ls
          else ((l.set (grpT l a - 1) 3).eraseIdx (grpT l a)) :: delL (l2 :: ls) (grpT l a)
        else if l[grpT l a + 1]? = some 3 then ((l.set (grpT l a + 1) 2).set (grpT l a) 2) :: l2 :: ls
        else ((l.set (grpT l a + 1) 3).eraseIdx (grpT l a)) :: delL (l2 :: ls) (grpT l a) := rfl
theorem delL_one (l : List Nat) (a : Nat) : delL [l] a = if l[grpT l a]? = some 3 then [l.set (grpT l a) 2] else [] := rfl
theorem one_groupT {l : List Nat} {many : Nat} (h : lvOK many [l]) : ∃ n, l = [n] ∧ (n = 2 ∨ n = 3) ∧ many = n := by
  obtain ⟨h1, h2, h3, h4⟩ := h
  have h4' : l.length ≤ 1 := h4
  match l, h2, h3, h4' with
  | [], _, h3, _ => simp at h3; omega
  | [n], h2, h3, _ => exact ⟨n, rfl, h2 n (by simp), by simpa using h3.symm⟩
/-- without an item the levels may be -/
theorem delL_ok : ∀ (lv : List (List Nat)) (many a : Nat), lvOK many lv → a < many → lvOK (many - 1) (delL lv a)
  | [], many, a, h, ha => by
    have : many ≤ 1 := h
    show many - 1 ≤ 1
    omega
  | [l], many, a, h, ha => by
    obtain ⟨n, rfl, hn, rfl⟩ := one_groupT h
    rw [delL_one]
    have hg : grpT [many] a = 0 := by rw [grpT_cons, if_pos ha]
    rw [hg]
    rcases hn with rfl | rfl
    · simp [lvOK]
    · simp [lvOK, two3]
  | l :: l2 :: ls, many, a, ⟨h1, h2, h3, h4⟩, ha => by
    obtain ⟨g1, g2, g3⟩ := grpT_spec l a (by omega)
    rw [delL_two]
    generalize grpT l a = k at *
    by_cases hk : l[k]? = some 3
    · rw [if_pos hk]
      obtain ⟨_, hk2⟩ := getT_of hk
      have := sumT_set l k 2 g1
      have h4' := h4.1
      have := two3_len h2
      exact ⟨by omega, two3_set h2 _ (.inl rfl), by omega, by rw [List.length_set]; exact h4⟩
    · rw [if_neg hk]
      have hk2 := getT_three h2 g1 hk
      have h41 := h4.1
      have h43 := h4.2.2.1
      have hlen := two3_len h2
      obtain ⟨j1, j2, j3⟩ := grpT_spec l2 k (by omega)
      have hj := startT_succ l2 j1
      have hj2 := two3_get h4.2.1 j1
      have hjl := startT_le l2 (grpT l2 k + 1)
      generalize grpT l2 k = j at *
      by_cases hs : startT l2 j < k
      · rw [if_pos hs]
        have k1 : k - 1 < l.length := by omega
        by_cases hp : l[k - 1]? = some 3
        · rw [if_pos hp]
          obtain ⟨_, hp2⟩ := getT_of hp
          have e1 := sumT_set l (k - 1) 2 k1
          have e2 := sumT_set (l.set (k - 1) 2) k 2 (by rw [List.length_set]; exact g1)
          rw [List.getElem_set_ne (by omega)] at e2
          exact ⟨by omega, two3_set (two3_set h2 _ (.inl rfl)) _ (.inl rfl), by omega, by rw [List.length_set, List.length_set]; exact h4⟩
        · rw [if_neg hp]
          have hp2 := getT_three h2 k1 hp
          have e1 := sumT_set l (k - 1) 3 k1
          have e2 := sumT_erase (l.set (k - 1) 3) k (by rw [List.length_set]; exact g1)
          rw [List.getElem_set_ne (by omega)] at e2
          refine ⟨by omega, two3_erase (two3_set h2 _ (.inr rfl)) _, by omega, ?_⟩
          rw [List.length_eraseIdx, List.length_set, if_pos g1]
          exact delL_ok (l2 :: ls) l.length k h4 g1
      · rw [if_neg hs]
        have k1 : k + 1 < l.length := by omega
        by_cases hp : l[k + 1]? = some 3
        · rw [if_pos hp]
          obtain ⟨_, hp2⟩ := getT_of hp
          have e1 := sumT_set l (k + 1) 2 k1
          have e2 := sumT_set (l.set (k + 1) 2) k 2 (by rw [List.length_set]; exact g1)
          rw [List.getElem_set_ne (by omega)] at e2
          exact ⟨by omega, two3_set (two3_set h2 _ (.inl rfl)) _ (.inl rfl), by omega, by rw [List.length_set, List.length_set]; exact h4⟩
        · rw [if_neg hp]
          have hp2 := getT_three h2 k1 hp
          have e1 := sumT_set l (k + 1) 3 k1
          have e2 := sumT_erase (l.set (k + 1) 3) k (by rw [List.length_set]; exact g1)
          rw [List.getElem_set_ne (by omega)] at e2
          refine ⟨by omega, two3_erase (two3_set h2 _ (.inr rfl)) _, by omega, ?_⟩
          rw [List.length_eraseIdx, List.length_set, if_pos g1]
          exact delL_ok (l2 :: ls) l.length k h4 g1

/-- no more levels than so many that two, so often multiplied, are no more than the members -/
theorem lvOK_high : ∀ (lv : List (List Nat)) (many : Nat), lvOK many lv → 0 < many → 2 ^ lv.length ≤ many
  | [], many, _, hm => by simp; omega
  | l :: ls, many, ⟨h1, h2, h3, h4⟩, hm => by
    have hl := two3_len h2
    have := lvOK_high ls l.length h4 (by omega)
    rw [List.length_cons, Nat.pow_succ]
    omega

/-- a tree has no more than one group more, level by level, and no more than one level more -/
def nearL (few more : List (List Nat)) : Prop := few.length ≤ more.length ∧ more.length ≤ few.length + 1 ∧ ∀ i (h : i < few.length) (h' : i < more.length), few[i].length ≤ more[i].length ∧ more[i].length ≤ few[i].length + 1
theorem nearL_refl (l : List (List Nat)) : nearL l l := ⟨Nat.le_refl _, by omega, fun i h h' => by omega⟩
theorem nearL_cons {x y : List Nat} {a b : List (List Nat)} (h : nearL a b) (h1 : x.length ≤ y.length) (h2 : y.length ≤ x.length + 1) : nearL (x :: a) (y :: b) := by
  obtain ⟨n1, n2, n3⟩ := h
  refine ⟨by simp only [List.length_cons]; omega, by simp only [List.length_cons]; omega, fun i hi hi' => ?_⟩
  cases i with
  | zero => exact ⟨h1, h2⟩
  | succ i => exact n3 i (by simpa using hi) (by simpa using hi')
theorem insL_near : ∀ (lv : List (List Nat)) (many a : Nat), lvOK many lv → a < many → nearL lv (insL lv a)
  | [], many, a, h, ha => ⟨by simp, by simp [insL], fun i hi => by simp at hi⟩
  | l :: ls, many, a, ⟨h1, h2, h3, h4⟩, ha => by
    obtain ⟨g1, g2, g3⟩ := grpT_spec l a (by omega)
    rw [insL_cons]
    by_cases hk : l[grpT l a]? = some 2
    · rw [if_pos hk]
      exact nearL_cons (nearL_refl _) (by simp) (by simp)
    · rw [if_neg hk]
      have hs := splitT_len g1
      exact nearL_cons (insL_near ls l.length (grpT l a) h4 g1) (by omega) (by omega)
theorem delL_near : ∀ (lv : List (List Nat)) (many a : Nat), lvOK many lv → a < many → nearL (delL lv a) lv
  | [], many, a, h, ha => nearL_refl _
  | [l], many, a, h, ha => by
    rw [delL_one]
    split
    · exact nearL_cons (nearL_refl _) (by simp) (by simp)
    · exact ⟨by simp, by simp, fun i hi => by simp at hi⟩
  | l :: l2 :: ls, many, a, ⟨h1, h2, h3, h4⟩, ha => by
    obtain ⟨g1, g2, g3⟩ := grpT_spec l a (by omega)
    rw [delL_two]
    have he : ∀ (x n : Nat), ((l.set x n).eraseIdx (grpT l a)).length = l.length - 1 := fun x n => by rw [List.length_eraseIdx, List.length_set, if_pos g1]
    split
    · exact nearL_cons (nearL_refl _) (by simp) (by simp)
    · split
      · split
        · exact nearL_cons (nearL_refl _) (by simp) (by simp)
        · exact nearL_cons (delL_near (l2 :: ls) l.length (grpT l a) h4 g1) (by rw [he]; omega) (by rw [he]; omega)
      · split
        · exact nearL_cons (nearL_refl _) (by simp) (by simp)
        · exact nearL_cons (delL_near (l2 :: ls) l.length (grpT l a) h4 g1) (by rw [he]; omega) (by rw [he]; omega)

/-- level by level in which group an item is -/
def pathL : List (List Nat) → Nat → List Nat
  | [], _ => []
  | l :: ls, a => grpT l a :: pathL ls (grpT l a)
/-- the sums of groups -/
def chunkT : List Nat → List Nat → List Nat
  | [], _ => []
  | n :: l, w => (w.take n).sum :: chunkT l (w.drop n)
/-- how wide the groups of the last one of some levels are -/
def wideL : List Nat → List (List Nat) → List Nat
  | w, [] => w
  | w, l :: ls => wideL (chunkT l w) ls
theorem chunkT_len : ∀ (l w : List Nat), (chunkT l w).length = l.length
  | [], _ => rfl
  | n :: l, w => by simp [chunkT, chunkT_len l]
theorem chunkT_start : ∀ (l w : List Nat) (k : Nat), k ≤ l.length → l.sum ≤ w.length → startT (chunkT l w) k = startT w (startT l k)
  | l, w, 0, _, _ => by simp [startT]
  | [], w, k + 1, h, _ => by simp at h
  | n :: l, w, k + 1, h, hw => by
    rw [List.sum_cons] at hw
    have := chunkT_start l (w.drop n) k (by simpa using h) (by rw [List.length_drop]; omega)
    rw [chunkT, startT_cons, startT_cons, this]
    unfold startT
    rw [List.take_add, List.sum_append]
theorem pathL_len : ∀ (lv : List (List Nat)) (a : Nat), (pathL lv a).length = lv.length
  | [], _ => rfl
  | l :: ls, a => by simp [pathL, pathL_len ls]
/-- what stands in a group's span is in it, level by level -/
theorem spanT_path : ∀ (lv : List (List Nat)) (w : List Nat) (many a at_ : Nat), lvOK many lv → w.length = many → a < many → startT w a ≤ at_ → at_ < startT w (a + 1) →
    ∀ k (hk : k < lv.length) (hp : k < (pathL lv a).length), (pathL lv a)[k] < lv[k].length ∧ (wideL w (lv.take (k + 1))).length = lv[k].length ∧ startT (wideL w (lv.take (k + 1))) (pathL lv a)[k] ≤ at_ ∧ at_ < startT (wideL w (lv.take (k + 1))) ((pathL lv a)[k] + 1)
  | [], w, many, a, at_, h, hw, ha, h1, h2, k, hk, hp => by simp at hk
  | l :: ls, w, many, a, at_, ⟨q1, q2, q3, q4⟩, hw, ha, h1, h2, k, hk, hp => by
    obtain ⟨g1, g2, g3⟩ := grpT_spec l a (by omega)
    have c1 := chunkT_start l w (grpT l a) (by omega) (by omega)
    have c2 := chunkT_start l w (grpT l a + 1) (by omega) (by omega)
    have m1 := startT_mono w g2
    have m2 := startT_mono w (show a + 1 ≤ startT l (grpT l a + 1) by omega)
    cases k with
    | zero =>
      simp only [pathL, List.getElem_cons_zero, List.take_succ_cons, List.take_zero, wideL]
      exact ⟨g1, chunkT_len _ _, by omega, by omega⟩
    | succ k =>
      simp only [pathL, List.getElem_cons_succ, List.take_succ_cons, wideL]
      exact spanT_path ls (chunkT l w) l.length (grpT l a) at_ q4 (chunkT_len _ _) g1 (by omega) (by omega) k (by simpa using hk) (by simpa [pathL] using hp)
theorem wideT_sum : ∀ (lv : List (List Nat)) (w : List Nat) (many k : Nat), lvOK many lv → w.length = many → k < lv.length → (wideL w (lv.take (k + 1))).sum = w.sum
  | [], w, many, k, h, hw, hk => by simp at hk
  | l :: ls, w, many, k, ⟨q1, q2, q3, q4⟩, hw, hk => by
    have hc : (chunkT l w).sum = w.sum := by
      have := chunkT_start l w l.length (Nat.le_refl _) (by omega)
      rw [startT_all, q3, ← hw, startT_all] at this
      rw [← this, ← chunkT_len l w, startT_all]
    cases k with
    | zero => simpa [wideL] using hc
    | succ k =>
      rw [List.take_succ_cons, wideL, wideT_sum ls (chunkT l w) l.length k q4 (chunkT_len _ _) (by simpa using hk), hc]
/-- the last level has one group -/
theorem pathL_last : ∀ (lv : List (List Nat)) (many a : Nat), lvOK many lv → a < many → ∀ (hp : lv.length - 1 < (pathL lv a).length), (pathL lv a)[lv.length - 1] = 0
  | [], many, a, h, ha, hp => by simp [pathL] at hp
  | [l], many, a, h, ha, hp => by
    obtain ⟨n, rfl, hn, rfl⟩ := one_groupT h
    simp [pathL, grpT_cons, ha]
  | l :: l2 :: ls, many, a, ⟨q1, q2, q3, q4⟩, ha, hp => by
    obtain ⟨g1, g2, g3⟩ := grpT_spec l a (by omega)
    have := pathL_last (l2 :: ls) l.length (grpT l a) q4 g1 (by rw [pathL_len]; simp)
    simpa [pathL] using this

end Go.Proofs.YtlidhdljgnijaaaDoor

/-
  NODES OF A TREE (layer 11) AS FUNCTIONS: a tree of nodes of either kind, told from below; ways up, and what is beside them; pure facts.
-/
set_option linter.unusedVariables false
namespace Go.Proofs.YtlidhdljgnijaaaDoor

/-- a tree of nodes: a leaf, two nodes below (red, or not), three -/
inductive RT where
  | leaf (a : Nat)
  | two (lev a : Nat) (red : Bool) (l r : RT)
  | three (lev a : Nat) (l m r : RT)
/-- a node as it is told -/
structure RN where
  lev : Nat
  at_ : Nat
  red : Bool
  fr : Nat
  to : Nat
  kids : List Nat
  up : Int
def RT.fr : RT → Nat
  | .leaf a => a
  | .two _ _ _ l _ => l.fr
  | .three _ _ l _ _ => l.fr
def RT.to : RT → Nat
  | .leaf a => a + 1
  | .two _ _ _ _ r => r.to
  | .three _ _ _ _ r => r.to
def RT.size : RT → Nat
  | .leaf _ => 1
  | .two _ _ _ l r => l.size + r.size + 1
  | .three _ _ l m r => l.size + m.size + r.size + 1
/-- the nodes, from below: the first one's place is off, the last one's Up is up -/
def RT.flat : RT → Nat → Int → List RN
  | .leaf a, _, up => [⟨0, a, false, a, a + 1, [], up⟩]
  | .two lev a red l r, off, up => l.flat off ((off + l.size + r.size : Nat) : Int) ++ r.flat (off + l.size) ((off + l.size + r.size : Nat) : Int) ++ [⟨lev, a, red, l.fr, r.to, [off + l.size - 1, off + l.size + r.size - 1], up⟩]
  | .three lev a l m r, off, up => l.flat off ((off + l.size + m.size + r.size : Nat) : Int) ++ m.flat (off + l.size) ((off + l.size + m.size + r.size : Nat) : Int) ++ r.flat (off + l.size + m.size) ((off + l.size + m.size + r.size : Nat) : Int) ++
      [⟨lev, a, false, l.fr, r.to, [off + l.size - 1, off + l.size + m.size - 1, off + l.size + m.size + r.size - 1], up⟩]
/-- the nodes of a level's group, with all below -/
def treeOf (kind : Int) (lv : List (List Nat)) : Nat → Nat → RT
  | 0, a => .leaf a
  | k + 1, a =>
    if (lv.getD k []).getD a 0 = 3 then
      if kind = 2 then .two (k + 1) a false (.two (k + 1) a true (treeOf kind lv k (startT (lv.getD k []) a)) (treeOf kind lv k (startT (lv.getD k []) a + 1))) (treeOf kind lv k (startT (lv.getD k []) a + 2))
      else .three (k + 1) a (treeOf kind lv k (startT (lv.getD k []) a)) (treeOf kind lv k (startT (lv.getD k []) a + 1)) (treeOf kind lv k (startT (lv.getD k []) a + 2))
    else .two (k + 1) a false (treeOf kind lv k (startT (lv.getD k []) a)) (treeOf kind lv k (startT (lv.getD k []) a + 1))
def nodesU (kind : Int) (many : Nat) (lv : List (List Nat)) : List RN := if many = 0 then [] else (treeOf kind lv lv.length 0).flat 0 (-1)

theorem RT.size_pos : ∀ T : RT, 0 < T.size
  | .leaf _ => by simp [RT.size]
  | .two _ _ _ l r => by simp [RT.size]
  | .three _ _ l m r => by simp [RT.size]
theorem RT.flat_len : ∀ (T : RT) (off : Nat) (up : Int), (T.flat off up).length = T.size
  | .leaf _, _, _ => rfl
  | .two _ _ _ l r, off, up => by simp only [RT.flat, RT.size, List.length_append, RT.flat_len l, RT.flat_len r, List.length_cons, List.length_nil]
  | .three _ _ l m r, off, up => by simp only [RT.flat, RT.size, List.length_append, RT.flat_len l, RT.flat_len m, RT.flat_len r, List.length_cons, List.length_nil]
/-- all but the last node, and the last one -/
def RT.init : RT → Nat → List RN
  | .leaf _, _ => []
  | .two lev a red l r, off => l.flat off ((off + l.size + r.size : Nat) : Int) ++ r.flat (off + l.size) ((off + l.size + r.size : Nat) : Int)
  | .three lev a l m r, off => l.flat off ((off + l.size + m.size + r.size : Nat) : Int) ++ m.flat (off + l.size) ((off + l.size + m.size + r.size : Nat) : Int) ++ r.flat (off + l.size + m.size) ((off + l.size + m.size + r.size : Nat) : Int)
def RT.node : RT → Nat → Int → RN
  | .leaf a, _, up => ⟨0, a, false, a, a + 1, [], up⟩
  | .two lev a red l r, off, up => ⟨lev, a, red, l.fr, r.to, [off + l.size - 1, off + l.size + r.size - 1], up⟩
  | .three lev a l m r, off, up => ⟨lev, a, false, l.fr, r.to, [off + l.size - 1, off + l.size + m.size - 1, off + l.size + m.size + r.size - 1], up⟩
theorem RT.flat_split (T : RT) (off : Nat) (up : Int) : T.flat off up = T.init off ++ [T.node off up] := by cases T <;> rfl
theorem RT.init_len (T : RT) (off : Nat) : (T.init off).length + 1 = T.size := by
  have h := T.flat_len off 0
  rw [T.flat_split, List.length_append] at h
  exact h
theorem RT.node_up (T : RT) (off : Nat) (up up' : Int) : { T.node off up with up := up' } = T.node off up' := by cases T <;> rfl
theorem RT.node_fr (T : RT) (off : Nat) (up : Int) : (T.node off up).fr = T.fr := by cases T <;> rfl
theorem RT.node_to (T : RT) (off : Nat) (up : Int) : (T.node off up).to = T.to := by cases T <;> rfl
theorem RT.node_upv (T : RT) (off : Nat) (up : Int) : (T.node off up).up = up := by cases T <;> rfl

/-- the nodes below a node have leaves, one behind the other -/
def RT.ok : RT → Prop
  | .leaf _ => True
  | .two _ _ _ l r => l.ok ∧ r.ok ∧ l.to = r.fr
  | .three _ _ l m r => l.ok ∧ m.ok ∧ r.ok ∧ l.to = m.fr ∧ m.to = r.fr
theorem RT.fr_lt : ∀ T : RT, T.ok → T.fr < T.to
  | .leaf _, _ => by simp [RT.fr, RT.to]
  | .two _ _ _ l r, ⟨h1, h2, h3⟩ => by
    have := RT.fr_lt l h1
    have := RT.fr_lt r h2
    simp only [RT.fr, RT.to]
    omega
  | .three _ _ l m r, ⟨h1, h2, h3, h4, h5⟩ => by
    have := RT.fr_lt l h1
    have := RT.fr_lt m h2
    have := RT.fr_lt r h3
    simp only [RT.fr, RT.to]
    omega
/-- where the leaves below a level's group begin -/
def leafS (lv : List (List Nat)) : Nat → Nat → Nat
  | 0, a => a
  | k + 1, a => leafS lv k (startT (lv.getD k []) a)
theorem getD_at {α : Type} {l : List α} {i : Nat} {d x : α} (h : l[i]? = some x) : l.getD i d = x := by rw [List.getD_eq_getElem?_getD, h]; rfl
/-- levels over so many nodes: each level's groups are as many as the level above says -/
def lvSum (many : Nat) (lv : List (List Nat)) : Prop := ∀ k l, lv[k]? = some l → two3 l ∧ l.sum = (if k = 0 then many else (lv.getD (k - 1) []).length)
theorem lvOK_sum : ∀ (lv : List (List Nat)) (many : Nat), lvOK many lv → lvSum many lv
  | [], many, _ => fun k l h => by simp at h
  | l :: ls, many, ⟨h1, h2, h3, h4⟩ => fun k x hx => by
    cases k with
    | zero =>
      simp at hx
      subst hx
      exact ⟨h2, by simpa using h3⟩
    | succ k =>
      have := lvOK_sum ls l.length h4 k x (by simpa using hx)
      refine ⟨this.1, ?_⟩
      rw [this.2]
      cases k with
      | zero => simp
      | succ k => simp
/-- so many groups a level has (level 0: leaves) -/
def wideN (many : Nat) (lv : List (List Nat)) : Nat → Nat
  | 0 => many
  | k + 1 => (lv.getD k []).length
theorem treeOf_ok {kind : Int} {many : Nat} {lv : List (List Nat)} (h : lvSum many lv) : ∀ (k a : Nat), k ≤ lv.length → a < wideN many lv k →
    (treeOf kind lv k a).ok ∧ (treeOf kind lv k a).fr = leafS lv k a ∧ (treeOf kind lv k a).to = leafS lv k (a + 1)
  | 0, a, _, _ => ⟨trivial, rfl, rfl⟩
  | k + 1, a, hk, ha => by
    have hl : lv[k]? = some lv[k] := List.getElem?_eq_getElem (by omega)
    have hg : lv.getD k [] = lv[k] := getD_at hl
    obtain ⟨h23, hsum⟩ := h k _ hl
    have ha' : a < lv[k].length := by rw [wideN, hg] at ha; exact ha
    have hx : lv[k].getD a 0 = lv[k][a] := getD_at (List.getElem?_eq_getElem ha')
    have hst := startT_succ lv[k] ha'
    have hle := startT_le lv[k] (a + 1)
    have h2 := two3_get h23 ha'
    have hw : wideN many lv k = lv[k].sum := by
      rw [hsum]
      cases k with
      | zero => rfl
      | succ k => simp [wideN]
    have ih := fun b (hb : b < lv[k].sum) => treeOf_ok (kind := kind) h k b (by omega) (by rw [hw]; exact hb)
    rw [treeOf, hg, hx]
    have e1 : leafS lv (k + 1) a = leafS lv k (startT lv[k] a) := by rw [leafS, hg]
    have e2 : leafS lv (k + 1) (a + 1) = leafS lv k (startT lv[k] a + lv[k][a]) := by rw [leafS, hg, hst]
    rw [e1, e2]
    generalize startT lv[k] a = f at *
    rcases h2 with h2 | h2
    · rw [h2] at hst ⊢
      rw [if_neg (by decide)]
      obtain ⟨a1, a2, a3⟩ := ih f (by omega)
      obtain ⟨b1, b2, b3⟩ := ih (f + 1) (by omega)
      exact ⟨⟨a1, b1, by rw [a3, b2]⟩, a2, b3⟩
    · rw [h2] at hst ⊢
      rw [if_pos rfl]
      obtain ⟨a1, a2, a3⟩ := ih f (by omega)
      obtain ⟨b1, b2, b3⟩ := ih (f + 1) (by omega)
      obtain ⟨c1, c2, c3⟩ := ih (f + 2) (by omega)
      by_cases h3 : kind = 2
      · rw [if_pos h3]
        exact ⟨⟨⟨a1, b1, by rw [a3, b2]⟩, c1, by rw [c2]; exact b3⟩, a2, c3⟩
      · rw [if_neg h3]
        exact ⟨⟨a1, b1, c1, by rw [a3, b2], by rw [b3, c2]⟩, a2, c3⟩

/-- a leaf's way up -/
def RT.path : RT → Nat → Nat → List Nat
  | .leaf _, off, _ => [off]
  | .two _ _ _ l r, off, p => (if p < l.to then l.path off p else r.path (off + l.size) p) ++ [off + l.size + r.size]
  | .three _ _ l m r, off, p => (if p < l.to then l.path off p else if p < m.to then m.path (off + l.size) p else r.path (off + l.size + m.size) p) ++ [off + l.size + m.size + r.size]
/-- the nodes beside it -/
def RT.beside : RT → Nat → Nat → List Nat
  | .leaf _, _, _ => []
  | .two _ _ _ l r, off, p => if p < l.to then l.beside off p ++ [off + l.size + r.size - 1] else r.beside (off + l.size) p ++ [off + l.size - 1]
  | .three _ _ l m r, off, p =>
    if p < l.to then l.beside off p ++ [off + l.size + m.size - 1, off + l.size + m.size + r.size - 1]
    else if p < m.to then m.beside (off + l.size) p ++ [off + l.size - 1, off + l.size + m.size + r.size - 1]
    else r.beside (off + l.size + m.size) p ++ [off + l.size - 1, off + l.size + m.size - 1]
/-- places of the nodes that have a leaf below -/
def hasP (p : Nat) (x : RN) : Bool := decide (x.fr ≤ p) && decide (p < x.to)
def wayOf (p : Nat) : Nat → List RN → List Nat
  | _, [] => []
  | i, x :: l => if hasP p x then i :: wayOf p (i + 1) l else wayOf p (i + 1) l
theorem wayOf_append (p : Nat) : ∀ (i : Nat) (a b : List RN), wayOf p i (a ++ b) = wayOf p i a ++ wayOf p (i + a.length) b
  | i, [], b => by simp [wayOf]
  | i, x :: a, b => by
    simp only [List.cons_append, wayOf, wayOf_append p (i + 1) a b, List.length_cons, show i + 1 + a.length = i + (a.length + 1) by omega]
    split <;> rfl
theorem RT.span : ∀ (T : RT) (off : Nat) (up : Int), T.ok → ∀ x ∈ T.flat off up, T.fr ≤ x.fr ∧ x.to ≤ T.to ∧ x.fr < x.to
  | .leaf a, off, up, _ => fun x hx => by
    simp only [RT.flat, List.mem_singleton] at hx
    subst hx
    exact ⟨Nat.le_refl _, Nat.le_refl _, Nat.lt_succ_self _⟩
  | .two lev a red l r, off, up, ⟨h1, h2, h3⟩ => fun x hx => by
    have f1 := RT.fr_lt l h1
    have f2 := RT.fr_lt r h2
    simp only [RT.flat, List.mem_append, List.mem_singleton] at hx
    simp only [RT.fr, RT.to]
    rcases hx with (hx | hx) | hx
    · have := RT.span l _ _ h1 x hx; omega
    · have := RT.span r _ _ h2 x hx; omega
    · subst hx; simp only; omega
  | .three lev a l m r, off, up, ⟨h1, h2, h3, h4, h5⟩ => fun x hx => by
    have f1 := RT.fr_lt l h1
    have f2 := RT.fr_lt m h2
    have f3 := RT.fr_lt r h3
    simp only [RT.flat, List.mem_append, List.mem_singleton] at hx
    simp only [RT.fr, RT.to]
    rcases hx with ((hx | hx) | hx) | hx
    · have := RT.span l _ _ h1 x hx; omega
    · have := RT.span m _ _ h2 x hx; omega
    · have := RT.span r _ _ h3 x hx; omega
    · subst hx; simp only; omega
theorem wayOf_none (p : Nat) : ∀ (i : Nat) (l : List RN), (∀ x ∈ l, hasP p x = false) → wayOf p i l = []
  | _, [], _ => rfl
  | i, x :: l, h => by
    rw [wayOf, h x (by simp), wayOf_none p (i + 1) l (fun y hy => h y (by simp [hy]))]
    rfl
theorem RT.way_out (T : RT) (off i : Nat) (up : Int) {p : Nat} (h : T.ok) (hp : p < T.fr ∨ T.to ≤ p) : wayOf p i (T.flat off up) = [] :=
  wayOf_none p i _ fun x hx => by
    have := T.span off up h x hx
    simp only [hasP, Bool.and_eq_false_iff, decide_eq_false_iff_not]
    omega
theorem RT.way : ∀ (T : RT) (off : Nat) (up : Int) (p : Nat), T.ok → T.fr ≤ p → p < T.to → wayOf p off (T.flat off up) = T.path off p
  | .leaf a, off, up, p, _, h1, h2 => by
    simp only [RT.fr, RT.to] at h1 h2
    simp [RT.flat, wayOf, hasP, RT.path]
    omega
  | .two lev a red l r, off, up, p, ⟨k1, k2, k3⟩, h1, h2 => by
    simp only [RT.fr, RT.to] at h1 h2
    have f1 := RT.fr_lt l k1
    have f2 := RT.fr_lt r k2
    have hme : wayOf p (off + l.size + r.size) [(⟨lev, a, red, l.fr, r.to, [off + l.size - 1, off + l.size + r.size - 1], up⟩ : RN)] = [off + l.size + r.size] := by
      simp [wayOf, hasP, h1, h2]
    simp only [RT.flat, wayOf_append, List.length_append, RT.flat_len, ← Nat.add_assoc]
    rw [hme, RT.path]
    by_cases hp : p < l.to
    · rw [if_pos hp, RT.way l _ _ p k1 h1 hp, RT.way_out r _ _ _ k2 (by omega), List.append_nil]
    · rw [if_neg hp, RT.way_out l _ _ _ k1 (by omega), RT.way r _ _ p k2 (by omega) h2, List.nil_append]
  | .three lev a l m r, off, up, p, ⟨k1, k2, k3, k4, k5⟩, h1, h2 => by
    simp only [RT.fr, RT.to] at h1 h2
    have f1 := RT.fr_lt l k1
    have f2 := RT.fr_lt m k2
    have f3 := RT.fr_lt r k3
    have hme : wayOf p (off + l.size + m.size + r.size) [(⟨lev, a, false, l.fr, r.to, [off + l.size - 1, off + l.size + m.size - 1, off + l.size + m.size + r.size - 1], up⟩ : RN)] = [off + l.size + m.size + r.size] := by
      simp [wayOf, hasP, h1, h2]
    simp only [RT.flat, wayOf_append, List.length_append, RT.flat_len, ← Nat.add_assoc]
    rw [hme, RT.path]
    by_cases hp : p < l.to
    · rw [if_pos hp, RT.way l _ _ p k1 h1 hp, RT.way_out m _ _ _ k2 (by omega), RT.way_out r _ _ _ k3 (by omega), List.append_nil, List.append_nil]
    · rw [if_neg hp, RT.way_out l _ _ _ k1 (by omega), List.nil_append]
      by_cases hp2 : p < m.to
      · rw [if_pos hp2, RT.way m _ _ p k2 (by omega) hp2, RT.way_out r _ _ _ k3 (by omega), List.append_nil]
      · rw [if_neg hp2, RT.way_out m _ _ _ k2 (by omega), RT.way r _ _ p k3 (by omega) h2, List.nil_append]

end Go.Proofs.YtlidhdljgnijaaaDoor

