import Derived.Test.YtbickllpledlbaaG05
/-
  CONTRACTS of the program's small functions (tree): mayBe, members, covers, grouped, Check, Find, groupOf, neighbour.
-/
set_option linter.unusedVariables false
namespace Go.Proofs.Ytbickllpledlbaa
open Go.RowKit

def mayT (x : Int) : Bool := decide (0 ≤ x) && decide (x ≤ 1048576)
theorem PMayBe_any (x : Int) (w : World) : Calls Try.prog 46 #[.int .i64 x] w fun e w' => e = .returned (.bool (mayT x)) ∧ w' = w := by
  go_enter Try.func46, Try.ntmps46
  by_cases h0 : 0 ≤ x
  · go_wp2_with fail
    go_ret
    exact ⟨by rw [mayT, decide_eq_true h0]; rfl, rfl⟩
  · go_wp2_with fail
    go_ret
    exact ⟨by rw [mayT, decide_eq_false (show ¬ 0 ≤ x by omega)]; rfl, rfl⟩

theorem badAt_may {ids : List Int} {j : Nat} {x : Int} (h : ids.getD j 0 = x) : badAt ids j = (!mayT x || (decide (0 < j) && decide (x ≤ ids.getD (j - 1) 0))) := by
  rw [badAt, h, mayT]
  by_cases h0 : x < 0
  · rw [decide_eq_true h0, decide_eq_false (show ¬ 0 ≤ x by omega)]; rfl
  · rw [decide_eq_false h0, decide_eq_true (show 0 ≤ x by omega)]
    by_cases h1 : 1048576 < x
    · rw [decide_eq_true h1, decide_eq_false (show ¬ x ≤ 1048576 by omega)]; rfl
    · rw [decide_eq_false h1, decide_eq_true (show x ≤ 1048576 by omega)]; rfl

set_option maxHeartbeats 1000000 in
theorem PMembers_any (A : Option Addr) (n c : Nat) (ids : List Int) (w : World) (hc : n ≤ c) (hm : c ≤ maxLen) (h : Rd w w.heap.size A n (ids.map iv)) :
    Calls Try.prog 36 #[.slice A n c] w fun e w' => e = .returned (.bool (decide (ids.length ≤ 1000) && okI ids)) ∧ w' = w := by
  have Hni := Lib.hid (show ids.length = n by simpa using h.len)
  rw [maxLen] at hm
  go_enter Try.func36, Try.ntmps36
  by_cases h1000 : n ≤ 1000
  rotate_left
  · have hg : (1000 : Int) < (n : Int) := by omega
    have He := Lib.hid (show (decide (ids.length ≤ 1000) && okI ids) = false by rw [Hni.out, decide_eq_false h1000]; rfl)
    go_wp2_with fail
    go_ret
    exact ⟨by rw [He.out]; rfl, rfl⟩
  have hg : ¬ (1000 : Int) < (n : Int) := by omega
  have Hall := Lib.hid (show (decide (ids.length ≤ 1000) && okI ids) = okI ids by rw [Hni.out, decide_eq_true h1000]; rfl)
  go_wp2_with fail
  go_loopw [10] (fun i wr => ∃ j : Nat, j ≤ n ∧ i = .int .i64 (j : Int) ∧ (List.range j).all (fun i => !badAt ids i) = true ∧ wr = w) (fun i _ => n - (intOf i).toNat)
  case atStart => exact ⟨0, by omega, rfl, rfl, rfl⟩
  case round =>
    obtain ⟨j, hj, rfl, ht, rfl⟩ := hrel
    by_cases hlt : j < n
    · obtain ⟨x, hx⟩ : ∃ x, ids[j]? = some x := ⟨_, List.getElem?_eq_getElem (by rw [Hni.out]; exact hlt)⟩
      obtain ⟨g, o, rfl, hgl, hcell⟩ := h.pos (by omega)
      have c1 := hcell j (iv x) (by rw [List.getElem?_map, hx]; rfl)
      rw [iv_def] at c1
      have hxd : ids.getD j 0 = x := by rw [List.getD_eq_getElem?_getD, hx]; rfl
      have Hbj := Lib.hid (badAt_may hxd)
      have Hnot := Lib.hid (show badAt ids j = true → (decide (ids.length ≤ 1000) && okI ids) = false from fun hb => by
        rw [Hall.out, okI, all_range_not (show j < ids.length by rw [Hni.out]; exact hlt) (by rw [hb]; rfl)])
      have Hyes := Lib.hid (show badAt ids j = false → (List.range (j + 1)).all (fun i => !badAt ids i) = true from fun hb => by rw [all_range_succ, ht, hb]; rfl)
      clear ht hx hxd
      by_cases hx0 : mayT x = true
      rotate_left
      · have hx1 : mayT x = false := by simpa using hx0
        have He := Lib.hid (Hnot.out (by rw [Hbj.out, hx1]; rfl))
        clear hcell hx0
        go_wp2_with fail
        refine (PMayBe_any x _).mono ?_
        rintro e w1 ⟨rfl, rfl⟩
        rw [hx1]
        clear hx1
        go_wp2_with fail
        go_ret
        exact ⟨by rw [He.out]; rfl, rfl⟩
      by_cases hj0 : 0 < j
      rotate_left
      · have Ht := Lib.hid (Hyes.out (by rw [Hbj.out, hx0, decide_eq_false hj0]; rfl))
        have hj0' : ¬ (0 : Int) < (j : Int) := by omega
        clear hcell hj0
        go_wp2_with fail
        refine (PMayBe_any x _).mono ?_
        rintro e w1 ⟨rfl, rfl⟩
        rw [hx0]
        clear hx0
        go_wp2_with fail
        go_roundw
        case rel => exact ⟨j + 1, by omega, by go_num, Ht.out, trivial⟩
        case measure => simp [intOf]; omega
      obtain ⟨y, hy⟩ : ∃ y, ids[j - 1]? = some y := ⟨_, List.getElem?_eq_getElem (by rw [Hni.out]; omega)⟩
      have c2 := hcell (j - 1) (iv y) (by rw [List.getElem?_map, hy]; rfl)
      rw [iv_def] at c2
      have hyd : ids.getD (j - 1) 0 = y := by rw [List.getD_eq_getElem?_getD, hy]; rfl
      rw [hyd] at Hbj
      have hj0' : (0 : Int) < (j : Int) := by omega
      have q0 : IntKind.i64.wrap ((j : Int) - 1) = (j : Int) - 1 := by rw [IntKind.wrap_i64]; omega
      have q1 : ((j : Int) - 1).toNat = j - 1 := by omega
      have q2 : (0 : Int) ≤ (j : Int) - 1 := by omega
      have q3 : (j : Int) - 1 < (n : Int) := by omega
      clear hcell hy hyd
      by_cases hxy : x ≤ y
      · have He := Lib.hid (Hnot.out (by rw [Hbj.out, decide_eq_true hj0, decide_eq_true hxy]; simp))
        clear hj0
        go_wp2_with fail
        refine (PMayBe_any x _).mono ?_
        rintro e w1 ⟨rfl, rfl⟩
        rw [hx0]
        clear hx0
        go_wp2_with fail
        go_ret
        exact ⟨by rw [He.out]; rfl, rfl⟩
      · have Ht := Lib.hid (Hyes.out (by rw [Hbj.out, hx0, decide_eq_true hj0, decide_eq_false hxy]; rfl))
        clear hj0
        go_wp2_with fail
        refine (PMayBe_any x _).mono ?_
        rintro e w1 ⟨rfl, rfl⟩
        rw [hx0]
        clear hx0
        go_wp2_with fail
        go_roundw
        case rel => exact ⟨j + 1, by omega, by go_num, Ht.out, trivial⟩
        case measure => simp [intOf]; omega
    · obtain rfl : j = n := by omega
      have He := Lib.hid (show (decide (ids.length ≤ 1000) && okI ids) = true by rw [Hall.out, okI, Hni.out, ht])
      clear ht
      go_wp2_with fail
      go_ret
      exact ⟨by rw [He.out]; rfl, rfl⟩

set_option maxHeartbeats 1000000 in
theorem PCovers_any (A : Option Addr) (n c : Nat) (l : List Int) (many : Int) (w : World) (hc : n ≤ c) (hm : c ≤ maxLen) (hl : n ≤ 1000000) (h0 : 0 ≤ many) (h1 : many ≤ 1000000) (h : Rd w w.heap.size A n (l.map iv)) :
    Calls Try.prog 50 #[.slice A n c, .int .i64 many] w fun e w' => e = .returned (.bool (in23 l && decide (l.sum = many))) ∧ w' = w := by
  have Hni := Lib.hid (show l.length = n by simpa using h.len)
  rw [maxLen] at hm
  go_enter Try.func50, Try.ntmps50
  go_wp2_with fail
  go_loopw [1, 9] (fun s i wr => ∃ k : Nat, k ≤ n ∧ i = .int .i64 (k : Int) ∧ s = .int .i64 (many - (l.take k).sum) ∧ in23 (l.take k) = true ∧ wr = w) (fun _ i _ => n - (intOf i).toNat)
  case atStart => exact ⟨0, by omega, rfl, by simp, rfl, rfl⟩
  case round =>
    obtain ⟨k, hk, rfl, rfl, hin, rfl⟩ := hrel
    have hsum := in23_sum _ hin
    rw [List.length_take] at hsum
    by_cases hlt : k < n
    · obtain ⟨x, hx⟩ : ∃ x, l[k]? = some x := ⟨_, List.getElem?_eq_getElem (by rw [Hni.out]; exact hlt)⟩
      obtain ⟨g, o, rfl, hgl, hcell⟩ := h.pos (by omega)
      have c1 := hcell k (iv x) (by rw [List.getElem?_map, hx]; rfl)
      rw [iv_def] at c1
      have Ht := Lib.hid (take_one hx)
      have Hnot := Lib.hid (show ¬ (x = 2 ∨ x = 3) → (in23 l && decide (l.sum = many)) = false from fun hne => by
        rw [show in23 l = false from all_not _ hx (by simp only [Bool.or_eq_false_iff, decide_eq_false_iff_not]; omega)]; rfl)
      have hs0 : (0 : Int) ≤ (l.take k).sum ∧ (l.take k).sum ≤ 3000000 := by omega
      have Hin := Lib.hid hin
      clear hin hsum hcell hx
      by_cases h2 : x = 2
      · subst h2
        have hw : IntKind.i64.wrap (many - (l.take k).sum - 2) = many - (l.take k).sum - 2 := by rw [IntKind.wrap_i64]; omega
        have Hs2 := Lib.hid (show (l.take (k + 1)).sum = (l.take k).sum + 2 by rw [Ht.out, List.sum_append]; simp)
        have Hi2 := Lib.hid (show in23 (l.take (k + 1)) = true by rw [Ht.out, in23, List.all_append, ← in23, Hin.out]; rfl)
        generalize (l.take k).sum = sm at *
        go_wp2_with fail
        go_roundw
        case rel => exact ⟨k + 1, by omega, by go_num, by rw [Hs2.out]; congr 1; omega, Hi2.out, trivial⟩
        case measure => simp [intOf]; omega
      by_cases h3 : x = 3
      · subst h3
        have hw : IntKind.i64.wrap (many - (l.take k).sum - 3) = many - (l.take k).sum - 3 := by rw [IntKind.wrap_i64]; omega
        have Hs2 := Lib.hid (show (l.take (k + 1)).sum = (l.take k).sum + 3 by rw [Ht.out, List.sum_append]; simp)
        have Hi2 := Lib.hid (show in23 (l.take (k + 1)) = true by rw [Ht.out, in23, List.all_append, ← in23, Hin.out]; rfl)
        generalize (l.take k).sum = sm at *
        go_wp2_with fail
        go_roundw
        case rel => exact ⟨k + 1, by omega, by go_num, by rw [Hs2.out]; congr 1; omega, Hi2.out, trivial⟩
        case measure => simp [intOf]; omega
      have He := Lib.hid (Hnot.out (by omega))
      have q2 : (x != 2) = true := by rw [bne_iff_ne]; exact h2
      have q3 : (x != 3) = true := by rw [bne_iff_ne]; exact h3
      clear h2 h3
      go_wp2_with fail
      go_ret
      exact ⟨by rw [He.out]; rfl, rfl⟩
    · obtain rfl : k = n := by omega
      rw [List.take_of_length_le (by rw [Hni.out]; exact Nat.le_refl _)] at hin hsum ⊢
      have Hs := Lib.hid (show (in23 l && decide (l.sum = many)) = ((many - l.sum) == 0) by
        rw [hin, Bool.true_and, Bool.eq_iff_iff, decide_eq_true_eq, beq_iff_eq]; omega)
      clear hin hsum
      go_wp2_with fail
      go_ret
      exact ⟨by rw [Hs.out]; rfl, rfl⟩

theorem cov_two {l : List Int} {many : Int} (h1 : 1 ≤ many) (hi : in23 l = true) (hs : l.sum = many) : 2 ≤ many ∧ 1 ≤ (l.length : Int) := by
  match l, hi, hs with
  | [], _, hs => simp at hs; omega
  | x :: l, hi, hs =>
    simp only [in23, List.all_cons, Bool.and_eq_true, Bool.or_eq_true, decide_eq_true_eq] at hi
    have := (in23_sum l (by rw [in23]; exact hi.2)).1
    simp only [List.sum_cons] at hs
    simp only [List.length_cons]
    omega

set_option maxHeartbeats 1000000 in
theorem PGrouped_any (Al : Option Addr) (nl cl : Nat) (vs : List Value) (ll : List (List Int)) (many : Int) (w : World) (hcl : nl ≤ cl) (hml : cl ≤ maxLen) (h0 : 0 ≤ many) (h1 : many ≤ 1000000) (hf : ∀ l ∈ ll, l.length ≤ 1000000)
    (hnl : ll.length = nl) (hv : Rd w w.heap.size Al nl vs) (hlv : Lvs w w.heap.size vs ll) :
    Calls Try.prog 37 #[.slice Al nl cl, .int .i64 many] w fun e w' => e = .returned (.bool (chkL many ll)) ∧ w' = w := by
  have Hnl := Lib.hid hnl
  rw [maxLen] at hml
  clear hnl
  go_enter Try.func37, Try.ntmps37
  by_cases h2 : many < 2
  · have He := Lib.hid (show chkL many ll = ((nl : Int) == 0) by
      match ll, Hnl.out with
      | [], hn =>
        have : nl = 0 := by rw [← hn]; rfl
        subst this
        rw [chkL, decide_eq_true (show many ≤ 1 by omega)]; rfl
      | l :: ls, hn =>
        have : ¬ nl = 0 := by rw [← hn]; simp
        rw [chkL, decide_eq_false (show ¬ 2 ≤ many by omega), Bool.and_false, Bool.and_false, Bool.false_and]
        symm
        rw [beq_eq_false_iff_ne]
        omega)
    go_wp2_with fail
    go_ret
    exact ⟨by rw [He.out]; rfl, rfl⟩
  go_wp2_with fail
  go_loopw [1, 14] (fun m i wr => ∃ (q : Nat) (mq : Int), q ≤ nl ∧ i = .int .i64 (q : Int) ∧ m = .int .i64 mq ∧ 1 ≤ mq ∧ mq ≤ 1000000 ∧ chkL many ll = chkL mq (ll.drop q) ∧ wr = w) (fun _ i _ => nl - (intOf i).toNat)
  case atStart => exact ⟨0, many, by omega, rfl, rfl, by omega, h1, rfl, rfl⟩
  case round =>
    clear h0 h1 h2
    obtain ⟨q, mq, hq, rfl, rfl, hm1, hmb, hch, rfl⟩ := hrel
    by_cases hlt : q < nl
    · have hql : q < ll.length := by rw [Hnl.out]; exact hlt
      obtain ⟨A, c, hvj, hc, hm, hrj⟩ := hlv.get hql
      obtain ⟨g, o, rfl, hgl, hcell⟩ := hv.pos (by omega)
      have c1 := hcell q _ hvj
      have Hd := Lib.hid (show ll.drop q = ll[q] :: ll.drop (q + 1) from List.drop_eq_getElem_cons hql)
      have hlm := hf _ (List.getElem_mem hql)
      clear hcell hvj
      generalize ll[q] = l at *
      have Hch := Lib.hid (show chkL many ll = (in23 l && (decide (l.sum = mq) && decide (2 ≤ mq)) && chkL l.length (ll.drop (q + 1))) by rw [hch, Hd.out]; rfl)
      have Hcov := Lib.hid (fun hi hs => cov_two (l := l) hm1 hi hs)
      clear hch
      go_wp2_with fail
      refine (PCovers_any A l.length c l mq _ hc hm hlm (by omega) hmb hrj).mono ?_
      rintro e w1 ⟨rfl, rfl⟩
      by_cases hk : (in23 l && decide (l.sum = mq)) = true
      · rw [hk]
        rw [Bool.and_eq_true, decide_eq_true_eq] at hk
        obtain ⟨k2, k3⟩ := Hcov.out hk.1 hk.2
        have Ht := Lib.hid (show chkL many ll = chkL l.length (ll.drop (q + 1)) by rw [Hch.out, hk.1, decide_eq_true hk.2, decide_eq_true k2]; rfl)
        clear hk k2
        go_wp2_with fail
        go_roundw
        case rel => exact ⟨q + 1, l.length, by omega, by go_num, rfl, k3, by omega, Ht.out, trivial⟩
        case measure => simp [intOf]; omega
      · have hkf : (in23 l && decide (l.sum = mq)) = false := by simpa using hk
        have He := Lib.hid (show chkL many ll = false by rw [Hch.out, ← Bool.and_assoc, hkf]; rfl)
        rw [hkf]
        clear hk hkf
        go_wp2_with fail
        go_ret
        exact ⟨by rw [He.out]; rfl, rfl⟩
    · obtain rfl : q = nl := by omega
      rw [List.drop_of_length_le (by rw [Hnl.out]; exact Nat.le_refl _)] at hch
      have He := Lib.hid (show chkL many ll = (mq == 1) by
        rw [hch, chkL, Bool.eq_iff_iff, decide_eq_true_eq, beq_iff_eq]; omega)
      clear hch
      go_wp2_with fail
      go_ret
      exact ⟨by rw [He.out]; rfl, rfl⟩

end Go.Proofs.Ytbickllpledlbaa

/-
  CONTRACTS of the program's Check, Find, groupOf, neighbour (tree).
-/
set_option linter.unusedVariables false
namespace Go.Proofs.Ytbickllpledlbaa
open Go.RowKit

theorem PFind_any (Ai : Option Addr) (ni ci : Nat) (Al : Option Addr) (nl cl : Nat) (ids : List Int) (id : Int) (w : World) (hni : ids.length = ni) (hci : ni ≤ ci) (hmi : ci ≤ maxLen) (h : Rd w w.heap.size Ai ni (ids.map iv)) :
    Calls Try.prog 23 #[.agg (shV Ai ni ci Al nl cl), .int .i64 id] w fun e w' => e = .returned (.tuple #[.int .i64 (belT ids id : Int), .bool (isT ids id)]) ∧ Below w.heap.size w w' := by
  have Hni := Lib.hid hni
  rw [maxLen] at hmi
  clear hni
  rw [shV]
  go_enter Try.func23, Try.ntmps23
  go_wp2_with fail
  go_loopw [6, 7, 13] (fun b t i wr => ∃ j : Nat, j ≤ ni ∧ i = .int .i64 (j : Int) ∧ b = .int .i64 (belT (ids.take j) id : Int) ∧ t = .bool (isT (ids.take j) id) ∧ Below w.heap.size w wr) (fun _ _ i _ => ni - (intOf i).toNat)
  case atStart => exact ⟨0, by omega, rfl, rfl, rfl, (Below.refl _ _).alloc (Nat.le_refl _) _⟩
  case round =>
    obtain ⟨j, hj, rfl, rfl, rfl, hb⟩ := hrel
    by_cases hlt : j < ni
    · obtain ⟨x, hx⟩ : ∃ x, ids[j]? = some x := ⟨_, List.getElem?_eq_getElem (by rw [Hni.out]; exact hlt)⟩
      obtain ⟨g, o, rfl, hg, hcell⟩ := (h.below hb).pos (by omega)
      have c1 := hcell j (iv x) (by rw [List.getElem?_map, hx]; rfl)
      rw [iv_def] at c1
      have hbl : belT (ids.take j) id ≤ j := Nat.le_trans List.countP_le_length (by rw [List.length_take]; omega)
      have Hb := Lib.hid (show belT (ids.take (j + 1)) id = belT (ids.take j) id + if x < id then 1 else 0 by
        rw [take_one hx, belT, List.countP_append]; simp [belT])
      have Ht := Lib.hid (show isT (ids.take (j + 1)) id = (isT (ids.take j) id || (x == id)) by
        rw [take_one hx, isT, List.any_append]; simp [isT])
      clear hcell hx
      generalize belT (ids.take j) id = bj at *
      generalize isT (ids.take j) id = tj at *
      have hw1 : IntKind.i64.wrap ((bj : Int) + 1) = (bj : Int) + 1 := by rw [IntKind.wrap_i64]; omega
      by_cases hxi : x < id
      · rw [if_pos hxi] at Hb
        cases tj
        · go_wp2_with fail
          go_roundw
          case rel => exact ⟨j + 1, by omega, by go_num, by rw [Hb.out]; rfl, by rw [Ht.out]; rfl, hb⟩
          case measure => simp [intOf]; omega
        · go_wp2_with fail
          go_roundw
          case rel => exact ⟨j + 1, by omega, by go_num, by rw [Hb.out]; rfl, by rw [Ht.out]; rfl, hb⟩
          case measure => simp [intOf]; omega
      · rw [if_neg hxi] at Hb
        cases tj
        · go_wp2_with fail
          go_roundw
          case rel => exact ⟨j + 1, by omega, by go_num, by rw [Hb.out]; rfl, by rw [Ht.out]; rfl, hb⟩
          case measure => simp [intOf]; omega
        · go_wp2_with fail
          go_roundw
          case rel => exact ⟨j + 1, by omega, by go_num, by rw [Hb.out]; rfl, by rw [Ht.out]; rfl, hb⟩
          case measure => simp [intOf]; omega
    · obtain rfl : j = ni := by omega
      rw [List.take_of_length_le (by rw [Hni.out]; exact Nat.le_refl _)]
      go_wp2_with fail
      exact bodyPost_ret (results_tmp2 rfl _ _ _) rfl ⟨rfl, hb⟩


theorem PCheck_any (Ai : Option Addr) (ni ci : Nat) (Al : Option Addr) (nl cl : Nat) (ids : List Int) (ll : List (List Int)) (w : World) (h : ShR w w.heap.size Ai ni ci Al nl cl ids ll) (hf : ∀ l ∈ ll, l.length ≤ 1000000) (hi6 : ni ≤ 1000000) :
    Calls Try.prog 24 #[.agg (shV Ai ni ci Al nl cl)] w fun e w' => e = .returned (.int .i64 (chkE ids ll)) ∧ Below w.heap.size w w' := by
  have Hni := Lib.hid h.hni
  have hM := (Ms.nil w).box 25 #[.slice Ai ni ci, .slice Al nl cl]
  have hmem := PMembers_any Ai ni ci ids (w.alloc (.cells #[.slice Ai ni ci, .slice Al nl cl] 25)) h.hci h.hmi ((h.hids.below hM.old).more hM.old.size)
  obtain ⟨vs, hv, hlv⟩ := h.lvs
  have hgr := PGrouped_any Al nl cl vs ll (ni : Int) (w.alloc (.cells #[.slice Ai ni ci, .slice Al nl cl] 25)) h.hcl h.hml (by omega) (by omega) hf h.hnl ((hv.below hM.old).more hM.old.size) ((hlv.below hM.old).more hM.old.size)
  have Hk := Lib.hid (show chkT ids ll = ((decide (ids.length ≤ 1000) && okI ids) && chkL (ni : Int) ll) by rw [chkT, h.hni])
  clear h
  rw [shV]
  go_enter Try.func24, Try.ntmps24
  go_wp2_with fail
  refine hmem.mono ?_
  rintro e w1 ⟨rfl, rfl⟩
  by_cases h1 : (decide (ids.length ≤ 1000) && okI ids) = true
  rotate_left
  · have h1f : (decide (ids.length ≤ 1000) && okI ids) = false := by simpa using h1
    have He := Lib.hid (show chkE ids ll = 1 by rw [chkE, Hk.out, h1f]; rfl)
    rw [h1f]
    clear h1 h1f
    go_wp2_with fail
    go_ret
    exact ⟨by rw [He.out]; rfl, hM.old⟩
  have Hk2 := Lib.hid (show chkE ids ll = if chkL (ni : Int) ll then 0 else 1 by rw [chkE, Hk.out, h1]; rfl)
  rw [h1]
  clear h1
  go_wp2_with fail
  refine hgr.mono ?_
  rintro e w1 ⟨rfl, rfl⟩
  cases hb : chkL (ni : Int) ll
  · have He := Lib.hid (show chkE ids ll = 1 by rw [Hk2.out, hb]; rfl)
    clear hb
    go_wp2_with fail
    go_ret
    exact ⟨by rw [He.out]; rfl, hM.old⟩
  · have He := Lib.hid (show chkE ids ll = 0 by rw [Hk2.out, hb]; rfl)
    clear hb
    go_wp2_with fail
    go_ret
    exact ⟨by rw [He.out]; rfl, hM.old⟩

theorem startT_cons0 (l : List Nat) {k : Nat} (h : k < l.length) : startT l (k + 1) = startT l k + l[k] := startT_succ l h
theorem grpT_past : ∀ (l : List Nat) (a : Nat), l.sum ≤ a → grpT l a = l.length
  | [], _, _ => rfl
  | n :: l, a, h => by
    rw [List.sum_cons] at h
    rw [grpT_cons, if_neg (by omega), grpT_past l (a - n) (by omega), List.length_cons]

set_option maxHeartbeats 1000000 in
theorem PGroupOf_any (A : Option Addr) (n c : Nat) (l : List Int) (a : Nat) (w : World) (hc : n ≤ c) (hm : c ≤ maxLen) (hl : n ≤ 1000000) (ha : a ≤ 1000000) (hin : in23 l = true) (h : Rd w w.heap.size A n (l.map iv)) :
    Calls Try.prog 49 #[.slice A n c, .int .i64 (a : Nat)] w fun e w' => e = .returned (.int .i64 (grpT (natL l) a : Nat)) ∧ w' = w := by
  have Hni := Lib.hid (show l.length = n by simpa using h.len)
  have Hnn := Lib.hid (show (natL l).length = n by rw [natL, List.length_map]; exact Hni.out)
  obtain ⟨n1, n2, n3⟩ := in23_nat _ hin
  rw [maxLen] at hm
  clear n2 hin
  go_enter Try.func49, Try.ntmps49
  go_wp2_with fail
  go_loopw [1, 9] (fun s i wr => ∃ k x : Nat, k ≤ n ∧ i = .int .i64 (k : Int) ∧ s = .int .i64 (x : Int) ∧ x + startT (natL l) k = a ∧ wr = w) (fun _ i _ => n - (intOf i).toNat)
  case atStart => exact ⟨0, a, by omega, rfl, rfl, by rw [startT_zero]; omega, rfl⟩
  case round =>
    obtain ⟨k, x, hk, rfl, rfl, hx, rfl⟩ := hrel
    by_cases hlt : k < n
    · have hkl : k < l.length := by rw [Hni.out]; exact hlt
      have hkn : k < (natL l).length := by rw [Hnn.out]; exact hlt
      obtain ⟨g, o, rfl, hgl, hcell⟩ := h.pos (by omega)
      have c1 := hcell k (iv l[k]) (by rw [List.getElem?_map, List.getElem?_eq_getElem hkl]; rfl)
      have hny := n3 k hkl
      have hss := startT_succ (natL l) hkn
      have h23 := two3_get n1 hkn
      rw [iv_def, hny] at c1
      clear hcell hny
      have Hgu := Lib.hid (fun h2 : a < startT (natL l) (k + 1) => grpT_unique hkn (show startT (natL l) k ≤ a by omega) h2)
      generalize (natL l)[k] = ny at *
      by_cases hge : x < ny
      · have hge' : (x : Int) < (ny : Int) := by omega
        have He := Lib.hid (Hgu.out (by omega))
        clear n1 n3 h23 hss hx
        go_wp2_with fail
        go_ret
        exact ⟨by rw [He.out]; rfl, rfl⟩
      · have hge' : ¬ (x : Int) < (ny : Int) := by omega
        have hw1 : IntKind.i64.wrap ((x : Int) - (ny : Int)) = (x : Int) - (ny : Int) := by rw [IntKind.wrap_i64]; omega
        have Hx := Lib.hid hx
        have Hss := Lib.hid hss
        clear hx hss
        go_wp2_with fail
        go_roundw
        case rel => exact ⟨k + 1, x - ny, by omega, by go_num, by congr 1; omega, by have := Hx.out; have := Hss.out; omega, trivial⟩
        case measure => simp [intOf]; omega
    · obtain rfl : k = n := by omega
      have He := Lib.hid (show grpT (natL l) a = k by
        rw [grpT_past (natL l) a (by rw [← startT_all, Hnn.out]; omega), Hnn.out])
      clear hx
      go_wp2_with fail
      go_ret
      exact ⟨by rw [He.out]; rfl, rfl⟩

/-- the group that is asked by another one -/
def nbrT (l : List Nat) (k : Nat) : Nat := if startT l (grpT l k) < k then k - 1 else k + 1
theorem nbr_iff {l : List Nat} {k : Nat} (hk : k < l.sum) : startT l (grpT l k) < k ↔ (0 < k ∧ grpT l (k - 1) = grpT l k) := by
  obtain ⟨g1, g2, g3⟩ := grpT_spec l k hk
  constructor
  · intro h
    exact ⟨by omega, grpT_unique g1 (by omega) (by omega)⟩
  · rintro ⟨h1, h2⟩
    obtain ⟨j1, j2, j3⟩ := grpT_spec l (k - 1) (by omega)
    rw [h2] at j2
    omega

end Go.Proofs.Ytbickllpledlbaa

/-
  CONTRACTS of slices.BinarySearch over rising numbers, and of the program's refused (tree).
-/
set_option linter.unusedVariables false
namespace Go.Proofs.Ytbickllpledlbaa
open Go.RowKit

theorem SNaN_any (x : Int) (w : World) : Calls Try.prog 54 #[.int .i64 x] w fun e w' => e = .returned (.bool false) ∧ w' = w := by
  have h : ∀ z : Int, (z != z) = false := fun z => by simp
  go_enter Try.func54, Try.ntmps54
  go_wp2_with fail
  go_ret
  exact ⟨rfl, rfl⟩
theorem CNaN_any (x : Int) (w : World) : Calls Try.prog 57 #[.int .i64 x] w fun e w' => e = .returned (.bool false) ∧ w' = w := by
  have h : ∀ z : Int, (z != z) = false := fun z => by simp
  go_enter Try.func57, Try.ntmps57
  go_wp2_with fail
  go_ret
  exact ⟨rfl, rfl⟩
theorem Less_any (x y : Int) (w : World) : Calls Try.prog 53 #[.int .i64 x, .int .i64 y] w fun e w' => e = .returned (.bool (decide (x < y))) ∧ w' = w := by
  go_enter Try.func53, Try.ntmps53
  go_wp2_with fail
  refine (CNaN_any x w).mono ?_
  rintro e w1 ⟨rfl, rfl⟩
  by_cases hxy : x < y
  · go_wp2_with fail
    go_ret
    exact ⟨by rw [decide_eq_true hxy]; rfl, rfl⟩
  · go_wp2_with fail
    go_ret
    exact ⟨rfl, rfl⟩

/-- in a rising list those below a number stand ahead -/
theorem rise_lt : ∀ (ids : List Int) (id : Int), ids.Pairwise (· < ·) → ∀ k (hk : k < ids.length), ids[k] < id ↔ k < belT ids id
  | [], id, _, k, hk => by simp at hk
  | x :: l, id, hp, k, hk => by
    rw [List.pairwise_cons] at hp
    by_cases hx : x < id
    · have e : belT (x :: l) id = belT l id + 1 := by simp [belT, hx]
      cases k with
      | zero => simp only [List.getElem_cons_zero, e]; omega
      | succ k =>
        have := rise_lt l id hp.2 k (by simpa using hk)
        simp only [List.getElem_cons_succ, e]
        omega
    · have e : belT (x :: l) id = 0 := by
        rw [belT, List.countP_eq_zero]
        intro y hy
        rcases List.mem_cons.1 hy with rfl | hy
        · simp; omega
        · have := hp.1 y hy
          simp; omega
      rw [e]
      cases k with
      | zero => simp only [List.getElem_cons_zero]; omega
      | succ k =>
        have := hp.1 _ (List.getElem_mem (show k < l.length by simpa using hk))
        simp only [List.getElem_cons_succ]
        omega
theorem rise_is {ids : List Int} {id : Int} (hp : ids.Pairwise (· < ·)) (hk : belT ids id < ids.length) : isT ids id = (ids[belT ids id] == id) := by
  rw [Bool.eq_iff_iff, beq_iff_eq]
  constructor
  · intro h
    exact (rise_bel ids id hp h).2
  · intro h
    rw [isT, List.any_eq_true]
    exact ⟨_, List.getElem_mem hk, by simpa using h⟩
theorem rise_end {ids : List Int} {id : Int} (hp : ids.Pairwise (· < ·)) (hk : belT ids id = ids.length) : isT ids id = false := by
  cases h : isT ids id
  · rfl
  · have := (rise_bel ids id hp h).1
    omega

set_option maxHeartbeats 1000000 in
theorem Search_any (A : Option Addr) (n c : Nat) (ids : List Int) (id : Int) (w : World) (hc : n ≤ c) (hm : c ≤ maxLen) (hn6 : n ≤ 1000000) (hp : ids.Pairwise (· < ·)) (h : Rd w w.heap.size A n (ids.map iv)) :
    Calls Try.prog 47 #[.slice A n c, .int .i64 id] w fun e w' => e = .returned (.tuple #[.int .i64 (belT ids id : Nat), .bool (isT ids id)]) ∧ w' = w := by
  have Hni := Lib.hid (show ids.length = n by simpa using h.len)
  have Hlt := Lib.hid (rise_lt ids id hp)
  have Hp := Lib.hid hp
  have hbl : belT ids id ≤ n := by rw [← Hni.out]; exact List.countP_le_length
  have His := Lib.hid (fun hk : belT ids id < ids.length => rise_is hp hk)
  have Hen := Lib.hid (fun hk : belT ids id = ids.length => rise_end hp hk)
  obtain ⟨p, hp'⟩ : ∃ p, p = belT ids id := ⟨_, rfl⟩
  obtain ⟨t, ht'⟩ : ∃ t, t = isT ids id := ⟨_, rfl⟩
  rw [← hp'] at hbl Hlt Hen ⊢
  rw [← ht'] at Hen ⊢
  have Hix := Lib.hid (fun (hk : p < ids.length) => show t = (ids[p] == id) by subst hp' ht'; exact His.out hk)
  clear hp hp' ht' His Hp
  rw [maxLen] at hm
  go_enter Try.func47, Try.ntmps47
  go_wp2_with fail
  go_loopw [7, 8] (fun i j wr => ∃ a b : Nat, i = .int .i64 (a : Int) ∧ j = .int .i64 (b : Int) ∧ a ≤ p ∧ p ≤ b ∧ b ≤ n ∧ wr = w) (fun i j _ => (intOf j).toNat - (intOf i).toNat)
  case atStart => exact ⟨0, n, rfl, rfl, by omega, hbl, Nat.le_refl _, rfl⟩
  case round =>
    obtain ⟨a, b, rfl, rfl, ha, hb, hbn, rfl⟩ := hrel
    by_cases hab : a < b
    · have hab' : (a : Int) < (b : Int) := by omega
      have w1 : IntKind.i64.wrap ((a : Int) + (b : Int)) = (a : Int) + (b : Int) := by rw [IntKind.wrap_i64]; omega
      obtain ⟨q, hq1, hq2, hq3⟩ : ∃ q : Nat, ((a : Int) + (b : Int)) / 2 = (q : Int) ∧ a ≤ q ∧ q < b := ⟨(a + b) / 2, by omega, by omega, by omega⟩
      have hqn : q < ids.length := by rw [Hni.out]; omega
      obtain ⟨g, o, rfl, hgl, hcell⟩ := h.pos (by omega)
      have c1 := hcell q (iv ids[q]) (by rw [List.getElem?_map, List.getElem?_eq_getElem hqn]; rfl)
      rw [iv_def] at c1
      have Hq := Lib.hid (Hlt.out q hqn)
      have b1 : (q : Int) < (n : Int) := by omega
      clear hcell
      generalize ids[q] = x at *
      have hw3 : IntKind.i64.wrap ((q : Int) + 1) = (q : Int) + 1 := by rw [IntKind.wrap_i64]; omega
      go_wp2_with fail
      refine (Less_any x id wr).mono ?_
      rintro e wr2 ⟨rfl, rfl⟩
      by_cases hx : x < id
      · have hqp := Hq.out.1 hx
        rw [decide_eq_true hx]
        clear hx
        go_wp2_with fail
        go_roundw
        case rel => exact ⟨q + 1, b, by go_num, rfl, by omega, by omega, by omega, trivial⟩
        case measure => simp [intOf]; omega
      · have hqp : p ≤ q := by
          rcases Nat.lt_or_ge q p with h1 | h1
          · exact absurd (Hq.out.2 h1) hx
          · exact h1
        rw [decide_eq_false hx]
        clear hx
        go_wp2_with fail
        go_roundw
        case rel => exact ⟨a, q, rfl, rfl, by omega, by omega, by omega, trivial⟩
        case measure => simp [intOf]; omega
    · obtain rfl : a = p := by omega
      obtain rfl : b = a := by omega
      by_cases hlt : b < n
      rotate_left
      · obtain rfl : b = n := by omega
        have Ht := Lib.hid (Hen.out Hni.out.symm)
        clear Hlt
        go_wp2_with fail
        exact bodyPost_ret (results_tmp2 rfl _ _ _) rfl ⟨by rw [Ht.out]; rfl, rfl⟩
      have hbl : b < ids.length := by rw [Hni.out]; exact hlt
      obtain ⟨g, o, rfl, hgl, hcell⟩ := h.pos (by omega)
      have c1 := hcell b (iv ids[b]) (by rw [List.getElem?_map, List.getElem?_eq_getElem hbl]; rfl)
      rw [iv_def] at c1
      have Ht := Lib.hid (Hix.out hbl)
      have b1 : (b : Int) < (n : Int) := by omega
      clear hcell Hlt
      generalize ids[b] = x at *
      by_cases hx : x = id
      · have Ht2 := Lib.hid (show t = true by rw [Ht.out, hx]; simp)
        subst hx
        clear Ht
        have hz : ∀ z : Int, (z == z) = true := fun z => by simp
        go_wp2_with fail
        exact bodyPost_ret (results_tmp2 rfl _ _ _) rfl ⟨by rw [Ht2.out]; rfl, rfl⟩
      · have hxf : (x == id) = false := by simpa using hx
        have Ht2 := Lib.hid (show t = false by rw [Ht.out, hxf])
        clear hx Ht
        go_wp2_with fail
        refine (SNaN_any x _).mono ?_
        rintro e wr2 ⟨rfl, rfl⟩
        go_wp2_with fail
        exact bodyPost_ret (results_tmp2 rfl _ _ _) rfl ⟨by rw [Ht2.out]; rfl, rfl⟩

/-- why a number can't be one more of these members -/
def refT (ids : List Int) (id : Int) : Int := if mayT id = false then 1 else if isT ids id = true then 7 else if 1000 ≤ ids.length then 8 else 0
set_option maxRecDepth 100000 in
theorem PRefused_any (A : Option Addr) (n c : Nat) (ids : List Int) (id : Int) (w : World) (hc : n ≤ c) (hm : c ≤ maxLen) (hn6 : n ≤ 1000000) (hp : ids.Pairwise (· < ·)) (h : Rd w w.heap.size A n (ids.map iv)) :
    Calls Try.prog 34 #[.slice A n c, .int .i64 id] w fun e w' => e = .returned (.int .i64 (refT ids id)) ∧ w' = w := by
  have Hni := Lib.hid (show ids.length = n by simpa using h.len)
  have hsr := Search_any A n c ids id w hc hm hn6 hp h
  generalize hb : belT ids id = p at hsr
  clear hb
  go_enter Try.func34, Try.ntmps34
  go_wp2_with fail
  refine (PMayBe_any id _).mono ?_
  rintro e w1 ⟨rfl, rfl⟩
  cases hmy : mayT id
  · have He := Lib.hid (show refT ids id = 1 by rw [refT, if_pos hmy])
    clear hmy
    go_wp2_with fail
    go_ret
    exact ⟨by rw [He.out]; rfl, rfl⟩
  have He0 := Lib.hid (show refT ids id = if isT ids id = true then 7 else if 1000 ≤ ids.length then 8 else 0 by rw [refT, if_neg (by rw [hmy]; simp)])
  clear hmy
  generalize isT ids id = t at *
  go_wp2_with fail
  refine hsr.mono ?_
  rintro e w1 ⟨rfl, rfl⟩
  cases t
  rotate_left
  · have He := Lib.hid (show refT ids id = 7 by rw [He0.out, if_pos rfl])
    go_wp2_with fail
    go_ret
    exact ⟨by rw [He.out]; rfl, rfl⟩
  by_cases h1 : 1000 ≤ n
  · have He := Lib.hid (show refT ids id = 8 by rw [He0.out, if_neg (by simp), Hni.out, if_pos h1])
    have h1' : (1000 : Int) ≤ (n : Int) := by omega
    go_wp2_with fail
    go_ret
    exact ⟨by rw [He.out]; rfl, rfl⟩
  · have He := Lib.hid (show refT ids id = 0 by rw [He0.out, if_neg (by simp), Hni.out, if_neg h1])
    have h1' : ¬ (1000 : Int) ≤ (n : Int) := by omega
    go_wp2_with fail
    go_ret
    exact ⟨by rw [He.out]; rfl, rfl⟩

end Go.Proofs.Ytbickllpledlbaa

