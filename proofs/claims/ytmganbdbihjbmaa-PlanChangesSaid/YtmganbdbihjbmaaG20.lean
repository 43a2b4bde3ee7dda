import Derived.Test.YtmganbdbihjbmaaG15
import Derived.Test.YtmganbdbihjbmaaG19
import Derived.Test.YtmganbdbihjbmaaG09
/-
  TREES OF THE CALL'S OWN: members and levels in rows that it owns, no two in one block; what is told of them as told trees.
-/
set_option linter.unusedVariables false
namespace Go.Proofs.Ytmganbdbihjbmaa
open Go.RowKit

theorem InsI_any (base : Nat) (A : Option Addr) (n c i vb : Nat) (x : Value) (xs : List Value) (w : World) (hn6 : n ≤ 1000000) (hin : i ≤ n) (h1x : x.oneCell' = true) (h1 : ∀ u ∈ xs, u.oneCell' = true) (hbase : base ≤ w.heap.size)
    (h : w.ownsRow base 3 1 (.slice A n c) n xs) (hv : RowC w vb 3 #[x]) (hne : ∀ ad, A = some ad → vb ≠ ad.block) :
    Calls Try.prog 63 #[.slice A n c, .int .i64 (i : Nat), .slice (some ⟨vb, 0, none⟩) 1 1] w (InsOf w base A (n + 1) (xs.take i ++ x :: xs.drop i)) := by
  have hxl : xs.length = n := by simpa using h.1
  rcases Nat.eq_or_lt_of_le hin with rfl | hlt
  · rw [List.take_of_length_le (by omega), List.drop_of_length_le (by omega)]
    exact InsI_end base A i c vb x xs w hn6 hbase h1x h hv
  · obtain ⟨g, rfl⟩ := own_someT h (by omega)
    obtain ⟨_, _, e0, hc, _⟩ := own_formT h
    injection e0 with _ _ e3
    subst e3
    rcases Nat.eq_or_lt_of_le hc with he | hc2
    · exact InsI_grow base g n c i vb x xs w hn6 hlt he.symm h1x h1 hbase h hv (hne _ rfl)
    · exact InsI_room base g n c i vb x xs w hn6 hlt hc2 h1x h1 h hv (hne _ rfl)

theorem own_tyT {w : World} {base : Nat} {e : TypeId} {size : Nat} {v : Value} {n : Nat} {xs : List Value} (h : w.ownsRow base e size v n xs) {g : Nat} (hg : v.ownBlock = some g) : ∃ cs, RowC w g e cs := by
  rcases h.2 with ⟨rfl, _⟩ | ⟨g', cap, cur, rfl, _, hc, _⟩
  · cases hg
  · have : g' = g := by simpa [Value.ownBlock] using hg
    subst this
    exact ⟨cur, hc⟩
theorem ty_neT {w : World} {g : Nat} {t t' : TypeId} {cs cs' : Array Value} (h : RowC w g t cs) (h' : RowC w g t' cs') : t = t' := by
  unfold RowC at h h'
  rw [h] at h'
  injection h' with h'
  injection h'
theorem own_farT {w w' : World} {base : Nat} {e : TypeId} {size : Nat} {v : Value} {n : Nat} {xs : List Value} {g : Nat} {t : TypeId} {cs : Array Value} (h : w.ownsRow base e size v n xs) (hg : w.grownBy w' (some g)) (hr : RowC w g t cs) (hne : t ≠ e) : w'.ownsRow base e size v n xs :=
  h.kept hg (.inr fun e' => by
    obtain ⟨cs', h'⟩ := own_tyT h e'
    exact hne (ty_neT hr h'))
theorem int_list_ne : (3 : TypeId) ≠ 22 := by decide

/-- a tree in rows of the call's own: the levels' row holds vs, the levels themselves lie in us -/
structure OwW (base : Nat) (w : World) (vI vL : Value) (vs us : List Value) (ids : List Int) (ll : List (List Int)) : Prop where
  i : w.ownsRow base 3 1 vI ids.length (ids.map iv)
  l : w.ownsRow base 22 1 vL ll.length vs
  n : us.length = ll.length
  r : ∀ (k : Nat) (u : Value) (l : List Int), us[k]? = some u → ll[k]? = some l → w.ownsRow base 3 1 u l.length (l.map iv)
  ai : ∀ (k : Nat) (u : Value) (g : Nat), us[k]? = some u → u.ownBlock = some g → vI.ownBlock ≠ some g
  al : ∀ (j k : Nat) (u v : Value) (g : Nat), us[j]? = some u → us[k]? = some v → u.ownBlock = some g → v.ownBlock = some g → j = k

section
variable {base : Nat} {w w' : World} {vI vL : Value} {vs us : List Value} {ids : List Int} {ll : List (List Int)}
theorem OwW.m (h : OwW base w vI vL vs us ids ll) : vs.length = ll.length := by have := h.l.1; omega
theorem OwW.at_ (h : OwW base w vI vL vs us ids ll) {k : Nat} {u : Value} (hk : us[k]? = some u) : ∃ l, ll[k]? = some l ∧ w.ownsRow base 3 1 u l.length (l.map iv) := by
  obtain ⟨h1, _⟩ := List.getElem?_eq_some_iff.1 hk
  have h2 : ll[k]? = some (ll[k]'(by rw [← h.n]; exact h1)) := List.getElem?_eq_getElem _
  exact ⟨_, h2, h.r k u _ hk h2⟩
/-- what turns one block that is none of the tree's, or none that was there -/
theorem OwW.kept {row : Option Nat} (h : OwW base w vI vL vs us ids ll) (hg : w.grownBy w' row) (h1 : vI.ownBlock = none ∨ vI.ownBlock ≠ row) (h2 : vL.ownBlock = none ∨ vL.ownBlock ≠ row) (h3 : ∀ (k : Nat) (u : Value), us[k]? = some u → u.ownBlock = none ∨ u.ownBlock ≠ row) : OwW base w' vI vL vs us ids ll :=
  ⟨h.i.kept hg h1, h.l.kept hg h2, h.n, fun k u l hk hl => (h.r k u l hk hl).kept hg (h3 k u hk), h.ai, h.al⟩
theorem OwW.quiet (h : OwW base w vI vL vs us ids ll) (hb : Below w.heap.size w w') : OwW base w' vI vL vs us ids ll :=
  ⟨own_below h.i hb, own_below h.l hb, h.n, fun k u l hk hl => own_below (h.r k u l hk hl) hb, h.ai, h.al⟩
theorem OwW.far {g : Nat} {t : TypeId} {cs : Array Value} (h : OwW base w vI vL vs us ids ll) (hg : w.grownBy w' (some g)) (hr : RowC w g t cs) (h1 : t ≠ 3) (h2 : t ≠ 22) : OwW base w' vI vL vs us ids ll :=
  ⟨own_farT h.i hg hr h1, own_farT h.l hg hr h2, h.n, fun k u l hk hl => own_farT (h.r k u l hk hl) hg hr h1, h.ai, h.al⟩
/-- the members turn -/
theorem OwW.idsT (h : OwW base w vI vL vs us ids ll) {vI' : Value} {ids' : List Int} (hg : w.grownBy w' vI.ownBlock) (hn : w'.ownsRow base 3 1 vI' ids'.length (ids'.map iv))
    (hb : vI'.ownBlock = vI.ownBlock ∨ ∀ q, vI'.ownBlock = some q → w.heap.size ≤ q) : OwW base w' vI' vL vs us ids' ll := by
  refine ⟨hn, ?_, h.n, fun k u l hk hl => (h.r k u l hk hl).kept hg ?_, fun k u g hk hu e => ?_, h.al⟩
  · cases hi : vI.ownBlock with
    | none => rw [hi] at hg; exact h.l.kept hg (by cases vL.ownBlock <;> simp)
    | some g =>
      rw [hi] at hg
      obtain ⟨cs, hr⟩ := own_tyT h.i hi
      exact own_farT h.l hg hr int_list_ne
  · cases hu : u.ownBlock with
    | none => exact .inl rfl
    | some g => exact .inr fun e => h.ai k u g hk hu e.symm
  · rcases hb with hb | hb
    · rw [hb] at e
      exact h.ai k u g hk hu e
    · have h1 := hb g e
      obtain ⟨l, _, hl⟩ := h.at_ hk
      have h2 := (hl.lt g hu).2
      omega
theorem get_setT {α : Type} {xs : List α} {k j : Nat} {x y : α} (h : (xs.set k x)[j]? = some y) : (j = k ∧ y = x ∧ k < xs.length) ∨ (j ≠ k ∧ xs[j]? = some y) := by
  rw [List.getElem?_set] at h
  by_cases hjk : k = j
  · rw [if_pos hjk] at h
    split at h
    · exact .inl ⟨hjk.symm, (Option.some.inj h).symm, by omega⟩
    · cases h
  · rw [if_neg hjk] at h
    exact .inr ⟨Ne.symm hjk, h⟩
/-- a level turns -/
theorem OwW.level (h : OwW base w vI vL vs us ids ll) {k g : Nat} {u u' : Value} {l' : List Int} (hk : us[k]? = some u) (hu : u.ownBlock = some g) (hg : w.grownBy w' (some g)) (hn : w'.ownsRow base 3 1 u' l'.length (l'.map iv))
    (hb : u'.ownBlock = some g ∨ ∀ q, u'.ownBlock = some q → w.heap.size ≤ q) : OwW base w' vI vL vs (us.set k u') ids (ll.set k l') := by
  obtain ⟨l, hl, hol⟩ := h.at_ hk
  obtain ⟨cs, hr⟩ := own_tyT hol hu
  have hnew : ∀ j v q, us[j]? = some v → v.ownBlock = some q → u'.ownBlock = some q → j = k := fun j v q hj hv hq => by
    rcases hb with hb | hb
    · have : q = g := by rw [hq] at hb; exact Option.some.inj hb
      subst this
      exact h.al j k v u q hj hk hv hu
    · obtain ⟨l2, _, h2⟩ := h.at_ hj
      have h3 := (h2.lt q hv).2
      have h4 := hb q hq
      omega
  refine ⟨h.i.kept hg (.inr (h.ai k u g hk hu)), by rw [List.length_set]; exact own_farT h.l hg hr int_list_ne, by rw [List.length_set, List.length_set]; exact h.n, fun j v m hj hm => ?_, fun j v q hj hv e => ?_, fun i j v v' q hi hj hv hv' => ?_⟩
  · rcases get_setT hj with ⟨rfl, rfl, h1⟩ | ⟨hne, hj⟩
    · rw [List.getElem?_set_self (by rw [← h.n]; exact h1)] at hm
      injection hm with hm
      subst hm
      exact hn
    · rw [List.getElem?_set_ne (Ne.symm hne)] at hm
      refine (h.r j v m hj hm).kept hg ?_
      cases hv : v.ownBlock with
      | none => exact .inl rfl
      | some q => exact .inr fun e => hne (h.al j k v u g hj hk (by rw [hv]; exact e) hu)
  · rcases get_setT hj with ⟨rfl, rfl, h1⟩ | ⟨hne, hj⟩
    · rcases hb with hb | hb
      · exact h.ai j u g hk hu (by rw [e, ← hv, hb])
      · have h2 := (h.i.lt q e).2
        have h3 := hb q hv
        omega
    · exact h.ai j v q hj hv e
  · rcases get_setT hi with ⟨rfl, rfl, h1⟩ | ⟨hne, hi2⟩
    · rcases get_setT hj with ⟨rfl, rfl, _⟩ | ⟨hne2, hj⟩
      · rfl
      · exact (hnew j v' q hj hv' hv).symm
    · rcases get_setT hj with ⟨rfl, rfl, _⟩ | ⟨hne2, hj2⟩
      · exact hnew i v q hi2 hv hv'
      · exact h.al i j v v' q hi2 hj2 hv hv'
/-- the levels' row turns in one place -/
theorem OwW.store {gl cl k : Nat} {u : Value} (h : OwW base w vI (.slice (some ⟨gl, 0, none⟩) ll.length cl) vs us ids ll) : OwW base (w.setCell ⟨gl, k, none⟩ u) vI (.slice (some ⟨gl, 0, none⟩) ll.length cl) (vs.set k u) us ids ll := by
  obtain ⟨s1, s2⟩ := h.l.stored k u
  obtain ⟨cs, hr⟩ := own_tyT h.l (g := gl) rfl
  exact ⟨own_farT h.i s2 hr int_list_ne.symm, s1, h.n, fun j v l hj hl => own_farT (h.r j v l hj hl) s2 hr int_list_ne.symm, h.ai, h.al⟩
/-- a level more -/
theorem OwW.snoc (h : OwW base w vI vL vs us ids ll) {w1 : World} {u vL' : Value} {l : List Int} (hb : Below w.heap.size w w1) (hu : w1.ownsRow base 3 1 u l.length (l.map iv)) (hf : ∀ q, u.ownBlock = some q → w.heap.size ≤ q)
    (hg : w1.grownBy w' vL.ownBlock) (hn : w'.ownsRow base 22 1 vL' (ll.length + 1) (vs ++ [u])) : OwW base w' vI vL' (vs ++ [u]) (us ++ [u]) ids (ll ++ [l]) := by
  have h1 := h.quiet hb
  have hk : ∀ {v : Value} {n : Nat} {xs : List Value}, w1.ownsRow base 3 1 v n xs → w'.ownsRow base 3 1 v n xs := by
    intro v n xs hv
    cases hl : vL.ownBlock with
    | none => rw [hl] at hg; exact hv.kept hg (by cases v.ownBlock <;> simp)
    | some g =>
      rw [hl] at hg
      obtain ⟨cs, hr⟩ := own_tyT h1.l hl
      exact own_farT hv hg hr int_list_ne.symm
  have hcase : ∀ {j : Nat} {v : Value}, (us ++ [u])[j]? = some v → us[j]? = some v ∨ (j = us.length ∧ v = u) := by
    intro j v hj
    rcases Nat.lt_or_ge j us.length with hlt | hge
    · rw [List.getElem?_append_left hlt] at hj; exact .inl hj
    · rw [List.getElem?_append_right hge] at hj
      have h2 := (List.getElem?_eq_some_iff.1 hj).1
      simp only [List.length_cons, List.length_nil] at h2
      have : j = us.length := by omega
      subst this
      simp at hj
      exact .inr ⟨rfl, hj.symm⟩
  refine ⟨hk h1.i, by rw [List.length_append]; exact hn, by simp [h.n], fun j v m hj hm => ?_, fun j v q hj hv e => ?_, fun i j v v' q hi hj hv hv' => ?_⟩
  · rcases hcase hj with hj | ⟨rfl, rfl⟩
    · have hlt := (List.getElem?_eq_some_iff.1 hj).1
      rw [List.getElem?_append_left (by rw [← h.n]; exact hlt)] at hm
      exact hk (h1.r j v m hj hm)
    · rw [h.n, List.getElem?_append_right (Nat.le_refl _)] at hm
      simp at hm
      subst hm
      exact hk hu
  · rcases hcase hj with hj | ⟨rfl, rfl⟩
    · exact h.ai j v q hj hv e
    · have h2 := hf q hv
      have h3 := (h.i.lt q e).2
      omega
  · rcases hcase hi with hi2 | ⟨rfl, rfl⟩
    · rcases hcase hj with hj2 | ⟨rfl, rfl⟩
      · exact h.al i j v v' q hi2 hj2 hv hv'
      · obtain ⟨_, _, h2⟩ := h.at_ hi2
        have h3 := (h2.lt q hv).2
        have h4 := hf q hv'
        omega
    · rcases hcase hj with hj | ⟨rfl, rfl⟩
      · obtain ⟨_, _, h2⟩ := h.at_ hj
        have h3 := (h2.lt q hv').2
        have h4 := hf q hv
        omega
      · rfl
/-- the last level gone -/
theorem OwW.lastOff (h : OwW base w vI vL vs us ids ll) {k g : Nat} {vL' : Value} (hk : k + 1 = ll.length) (hl : vL.ownBlock = some g) (hg : w.grownBy w' (some g)) (hn : w'.ownsRow base 22 1 vL' k (vs.eraseIdx k)) : OwW base w' vI vL' (vs.take k) (us.take k) ids (ll.take k) := by
  obtain ⟨cs, hr⟩ := own_tyT h.l hl
  have he : vs.eraseIdx k = vs.take k := by rw [List.eraseIdx_eq_take_drop_succ, List.drop_of_length_le (by rw [h.m]; omega), List.append_nil]
  rw [he] at hn
  have ht : ∀ {α : Type} {xs : List α} {j : Nat} {x : α}, (xs.take k)[j]? = some x → xs[j]? = some x := by
    intro α xs j x hj
    rw [List.getElem?_take] at hj
    split at hj
    · exact hj
    · cases hj
  exact ⟨own_farT h.i hg hr int_list_ne.symm, by rw [List.length_take, ← hk, Nat.min_eq_left (by omega)]; exact hn, by rw [List.length_take, List.length_take, h.n], fun j v m hj hm => own_farT (h.r j v m (ht hj) (ht hm)) hg hr int_list_ne.symm,
    fun j v q hj hv e => h.ai j v q (ht hj) hv e, fun i j v v' q hi hj hv hv' => h.al i j v v' q (ht hi) (ht hj) hv hv'⟩
end

theorem own_thaw {w : World} {base : Nat} {e : TypeId} {n c : Nat} {A : Option Addr} {xs : List Value} (h : w.ownsRow base e 1 (.slice A n c) n xs) : ∀ ad, A = some ad → thawed w ad.block := by
  rintro ad rfl
  obtain ⟨cs, hr⟩ := own_tyT h (g := ad.block) rfl
  exact ⟨cs, _, hr⟩
/-- such a tree as a told one -/
theorem OwW.shN {base lo : Nat} {w : World} {Ai Al : Option Addr} {ni ci nl cl : Nat} {vs : List Value} {ids : List Int} {ll : List (List Int)} (hb : lo ≤ base) (h : OwW base w (.slice Ai ni ci) (.slice Al nl cl) vs vs ids ll) :
    ShN lo w w.heap.size Ai ni ci Al nl cl ids ll ∧ ThawS w Ai Al nl := by
  obtain ⟨A1, c1, e1, hc1, hm1⟩ := own_formT h.i
  injection e1 with a1 a2 a3
  subst a1 a2 a3
  obtain ⟨A2, c2, e2, hc2, hm2⟩ := own_formT h.l
  injection e2 with b1 b2 b3
  subst b1 b2 b3
  have hlv : Lvs w w.heap.size vs ll := ⟨h.n, fun k v l hv hl => by
    have hr := h.r k v l hv hl
    obtain ⟨A, c, e, hc, hm⟩ := own_formT hr
    subst e
    exact ⟨A, c, rfl, hc, hm, Rd.of_own hr⟩⟩
  have hrv : Rd w w.heap.size Al ll.length vs := Rd.of_own h.l
  refine ⟨⟨⟨rfl, rfl, hc1, hc2, hm1, hm2, Rd.of_own h.i, vs, hrv, hlv⟩, NewA.of_own h.i hb, NewA.of_own h.l hb, vs, hrv, hlv, fun v hv A n c e => ?_⟩, own_thaw h.i, fun b o j e hj A m c hcell ad had => ?_⟩
  · obtain ⟨k, hk⟩ := List.mem_iff_getElem?.1 hv
    obtain ⟨l, _, hl⟩ := h.at_ hk
    subst e
    obtain ⟨_, _, e, _⟩ := own_formT hl
    injection e with _ e2
    subst e2
    exact NewA.of_own hl hb
  · obtain ⟨b', o', e', _, hc'⟩ := hrv.pos (by omega)
    rw [e] at e'
    injection e' with e'
    injection e' with e3 e4
    subst e3 e4
    have hjl : j < vs.length := by rw [h.m]; exact hj
    have := hc' j _ (List.getElem?_eq_getElem hjl)
    rw [hcell] at this
    injection this with this
    obtain ⟨l, _, hl⟩ := h.at_ (List.getElem?_eq_getElem hjl)
    rw [← this] at hl
    obtain ⟨_, _, e5, _⟩ := own_formT hl
    injection e5 with _ e6
    subst e6
    exact own_thaw hl ad had

end Go.Proofs.Ytmganbdbihjbmaa

/-
  TREES OF THE CALL'S OWN, level by level: what a level's row holds, a number written, a number put in; boxes kept beside.
-/
set_option linter.unusedVariables false
namespace Go.Proofs.Ytmganbdbihjbmaa
open Go.RowKit

/-- boxes that lie beside rows from B on -/
structure MsB (B : Nat) (w0 w : World) (L : List (Nat × TypeId × Array Value)) : Prop where
  old : Below B w0 w
  rows : ∀ p ∈ L, RowC w p.1 p.2.1 p.2.2
section
variable {B : Nat} {w0 w w' : World} {L : List (Nat × TypeId × Array Value)}
theorem MsB.of (h : Ms w0 w L) (hB : B ≤ w0.heap.size) : MsB B w0 w L := ⟨h.old.mono hB, h.rows⟩
theorem MsB.get (h : MsB B w0 w L) (i : Nat) {g : Nat} {t : TypeId} {cs : Array Value} (hi : L[i]? = some (g, t, cs)) : RowC w g t cs := h.rows _ (List.mem_of_getElem? hi)
theorem MsB.call (h : MsB B w0 w L) (hb : Below w.heap.size w w') (hB : B ≤ w.heap.size) : MsB B w0 w' L := ⟨h.old.trans (hb.mono hB), fun p hp => (h.rows p hp).call hb⟩
theorem MsB.turn (h : MsB B w0 w L) {row : Option Nat} (hg : w.grownBy w' row) (hs : B ≤ w.heap.size) (hr : ∀ g, row = some g → B ≤ g ∧ ∃ t cs, RowC w g t cs ∧ ∀ p ∈ L, t ≠ p.2.1) : MsB B w0 w' L :=
  ⟨h.old.grown hg hs (fun g e => (hr g e).1), fun p hp => (h.rows p hp).grownT hg (fun g e => by
    obtain ⟨_, t, cs, h1, h2⟩ := hr g e
    rintro rfl
    exact h2 p hp (ty_neT h1 (h.rows p hp)))⟩
theorem MsB.set {g : Nat} {t : TypeId} {cs : Array Value} (h : MsB B w0 w ((g, t, cs) :: L)) (hg : B ≤ g) (hne : ∀ p ∈ L, p.1 ≠ g) (i : Nat) (v : Value) : MsB B w0 (w.setCell ⟨g, i, none⟩ v) ((g, t, cs.setIfInBounds i v) :: L) :=
  ⟨h.old.setCell hg _, fun p hp => by
    rcases List.mem_cons.1 hp with rfl | hp
    · exact (h.rows (g, t, cs) (by simp)).set_ i v
    · exact (h.rows p (by simp [hp])).far (hne p hp) v⟩
theorem grown_setCell (w : World) (g i : Nat) (v : Value) : w.grownBy (w.setCell ⟨g, i, none⟩ v) (some g) :=
  ⟨rfl, rfl, rfl, by simp, fun k _ hk => heap_setCell_other w ⟨g, i, none⟩ k v (fun e => hk (by simp [e]))⟩
end

def castL (l : List Nat) : List Int := l.map fun n : Nat => (n : Int)
theorem castL_len (l : List Nat) : (castL l).length = l.length := by simp [castL]
theorem natL_cast (l : List Nat) : natL (castL l) = l := by simp [natL, castL, Function.comp_def]
theorem levI_cast (lv : List (List Nat)) : levI lv = lv.map castL := rfl
theorem levI_set (X : List (List Nat)) (k : Nat) (y : List Nat) : (levI X).set k (castL y) = levI (X.set k y) := by rw [levI_cast, levI_cast, List.map_set]
theorem levI_get {X : List (List Nat)} {k : Nat} {l : List Nat} (h : X[k]? = some l) : (levI X)[k]? = some (castL l) := by rw [levI_cast, List.getElem?_map, h]; rfl
theorem levI_lenX (X : List (List Nat)) : (levI X).length = X.length := by simp [levI]
theorem castL_set (l : List Nat) (j y : Nat) : (castL l).set j (y : Int) = castL (l.set j y) := by simp [castL, List.map_set]

section
variable {base : Nat} {w w' : World} {vI : Value} {Al : Option Addr} {nl cl : Nat} {vs us : List Value} {ids : List Int} {X : List (List Nat)}
/-- a level's row -/
theorem OwW.lvl (h : OwW base w vI (.slice Al nl cl) vs vs ids (levI X)) {k : Nat} {l : List Nat} (hk : X[k]? = some l) (hl : 0 < l.length) :
    ∃ gl g c, Al = some ⟨gl, 0, none⟩ ∧ nl = X.length ∧ nl ≤ cl ∧ cl ≤ maxLen ∧ l.length ≤ c ∧ c ≤ maxLen ∧ vs[k]? = some (.slice (some ⟨g, 0, none⟩) l.length c) ∧ w.cell? ⟨gl, k, none⟩ = some (.slice (some ⟨g, 0, none⟩) l.length c) ∧
      w.ownsRow base 3 1 (.slice (some ⟨g, 0, none⟩) l.length c) l.length ((castL l).map iv) ∧ gl ≠ g := by
  have hkl : k < X.length := (List.getElem?_eq_some_iff.1 hk).1
  have hkv : k < vs.length := by rw [h.m, levI_lenX]; exact hkl
  have hr := h.r k vs[k] _ (List.getElem?_eq_getElem hkv) (levI_get hk)
  rw [castL_len] at hr
  obtain ⟨A, c, e, hc, hm⟩ := own_formT hr
  rw [e] at hr
  obtain ⟨g, rfl⟩ := own_someT hr hl
  have hol := h.l
  rw [levI_lenX] at hol
  obtain ⟨A2, c2, e2, hc2, hm2⟩ := own_formT hol
  injection e2 with a1 a2 a3
  subst a1 a2 a3
  obtain ⟨gl, rfl⟩ := own_someT hol (by omega)
  have hcell := hol.cells (g := gl) rfl k _ (List.getElem?_eq_getElem hkv)
  rw [Addr.add_lit, Nat.zero_add, e] at hcell
  refine ⟨gl, g, c, rfl, rfl, hc2, hm2, hc, hm, by rw [List.getElem?_eq_getElem hkv, e], hcell, hr, ?_⟩
  rintro rfl
  obtain ⟨cs, h1⟩ := own_tyT hol (g := gl) rfl
  obtain ⟨cs', h2⟩ := own_tyT hr (g := gl) rfl
  exact int_list_ne (ty_neT h2 h1)
/-- a level's numbers -/
theorem lvl_cell {w : World} {g c : Nat} {l : List Nat} (h : w.ownsRow base 3 1 (.slice (some ⟨g, 0, none⟩) l.length c) l.length ((castL l).map iv)) {j : Nat} (hj : j < l.length) : w.cell? ⟨g, j, none⟩ = some (.int .i64 (l[j] : Nat)) ∧ w.frozen? ⟨g, j, none⟩ = false := by
  refine ⟨?_, h.frozenAt j⟩
  rw [h.cellAt j (by omega), List.getElem?_map, castL, List.getElem?_map, List.getElem?_eq_getElem hj]
  rfl
theorem set_same {α : Type} {xs : List α} {k : Nat} {x : α} (h : xs[k]? = some x) : xs.set k x = xs := by
  obtain ⟨h1, h2⟩ := List.getElem?_eq_some_iff.1 h
  rw [← h2, List.set_getElem_self]
/-- a number of a level is written -/
theorem OwW.num (h : OwW base w vI (.slice Al nl cl) vs vs ids (levI X)) {k g c : Nat} {l : List Nat} (hk : X[k]? = some l) (hv : vs[k]? = some (.slice (some ⟨g, 0, none⟩) l.length c)) (j y : Nat) :
    OwW base (w.setCell ⟨g, j, none⟩ (.int .i64 (y : Nat))) vI (.slice Al nl cl) vs vs ids (levI (X.set k (l.set j y))) := by
  have hr := h.r k _ _ hv (levI_get hk)
  rw [castL_len] at hr
  obtain ⟨s1, s2⟩ := hr.stored j (.int .i64 (y : Nat))
  have hs : ((castL l).map iv).set j (.int .i64 (y : Nat)) = (castL (l.set j y)).map iv := by
    rw [← castL_set, List.map_set]; rfl
  rw [hs] at s1
  have := h.level hv (g := g) rfl s2 (u' := .slice (some ⟨g, 0, none⟩) l.length c) (l' := castL (l.set j y)) (by rw [castL_len, List.length_set]; exact s1) (.inl rfl)
  rwa [set_same hv, levI_set] at this
/-- a number is put into a level -/
theorem OwW.ins (h : OwW base w vI (.slice Al nl cl) vs vs ids (levI X)) {k g c n j : Nat} {l : List Nat} (hk : X[k]? = some l) (hv : vs[k]? = some (.slice (some ⟨g, 0, none⟩) l.length c)) (hn : n = l.length + 1) {e : Ending}
    (hi : InsOf w base (some ⟨g, 0, none⟩) n (((castL l).map iv).take j ++ .int .i64 2 :: ((castL l).map iv).drop j) e w') :
    ∃ A' c', e = .returned (.slice A' n c') ∧ OwW base w' vI (.slice Al nl cl) vs (vs.set k (.slice A' n c')) ids (levI (X.set k (l.take j ++ 2 :: l.drop j))) ∧ w.grownBy w' (some g) := by
  obtain ⟨A', c', h1, h2, h3, h4⟩ := hi
  have he : ((castL l).map iv).take j ++ .int .i64 2 :: ((castL l).map iv).drop j = (castL (l.take j ++ 2 :: l.drop j)).map iv := by
    simp [castL, List.map_append, List.map_take, List.map_drop, iv]
  rw [he] at h2
  have hlen : (castL (l.take j ++ 2 :: l.drop j)).length = n := by
    rw [castL_len, List.length_append, List.length_cons, hn, ← Nat.add_assoc, ← List.length_append, List.take_append_drop]
  refine ⟨A', c', h1, ?_, h3⟩
  have := h.level hv (g := g) rfl h3 (u' := .slice A' n c') (l' := castL (l.take j ++ 2 :: l.drop j)) (by rw [hlen]; exact h2) (by
    rcases h4 with h4 | h4
    · left
      cases A' with
      | none => cases h4
      | some ad =>
        have : ad.block = g := by simpa using h4
        simp [Value.ownBlock, this]
    · right
      intro q hq
      cases A' with
      | none => cases hq
      | some ad =>
        have : q = ad.block := by simpa [Value.ownBlock] using hq.symm
        subst this
        exact h4 ad rfl)
  rwa [levI_set] at this
/-- a number is taken out of a level -/
theorem OwW.del (h : OwW base w vI (.slice Al nl cl) vs vs ids (levI X)) {k g c n j : Nat} {l : List Nat} (hk : X[k]? = some l) (hv : vs[k]? = some (.slice (some ⟨g, 0, none⟩) l.length c)) (hn : n + 1 = l.length) (hj : j < l.length)
    (hi : w'.ownsRow base 3 1 (.slice (some ⟨g, 0, none⟩) n c) n (((castL l).map iv).eraseIdx j)) (hg : w.grownBy w' (some g)) :
    OwW base w' vI (.slice Al nl cl) vs (vs.set k (.slice (some ⟨g, 0, none⟩) n c)) ids (levI (X.set k (l.eraseIdx j))) := by
  have he : ((castL l).map iv).eraseIdx j = (castL (l.eraseIdx j)).map iv := by
    simp [castL, List.eraseIdx_eq_take_drop_succ, List.map_append, List.map_take, List.map_drop]
  rw [he] at hi
  have hlen : (castL (l.eraseIdx j)).length = n := by
    rw [castL_len, List.length_eraseIdx, if_pos hj]; omega
  have := h.level hv (g := g) rfl hg (u' := .slice (some ⟨g, 0, none⟩) n c) (l' := castL (l.eraseIdx j)) (by rw [hlen]; exact hi) (.inl rfl)
  rwa [levI_set] at this
/-- the row of a level's turned head is written -/
theorem OwW.storeL {gl k : Nat} {u : Value} (h : OwW base w vI (.slice (some ⟨gl, 0, none⟩) nl cl) vs us ids (levI X)) (hn : nl = X.length) (hu : us = vs.set k u) : OwW base (w.setCell ⟨gl, k, none⟩ u) vI (.slice (some ⟨gl, 0, none⟩) nl cl) us us ids (levI X) := by
  subst hn hu
  have h' : OwW base w vI (.slice (some ⟨gl, 0, none⟩) (levI X).length cl) vs (vs.set k u) ids (levI X) := by rw [levI_lenX]; exact h
  have := h'.store (k := k) (u := u)
  rwa [levI_lenX] at this
end

section
variable {base : Nat} {w w' : World} {vI vL : Value} {vs us : List Value} {ids : List Int} {ll : List (List Int)}
theorem own_map (A : Option Addr) (n c : Nat) : (Value.slice A n c).ownBlock = A.map (·.block) := by cases A <;> rfl
theorem own_or {A A' : Option Addr} {n c n' c' lo : Nat} (h : A'.map (·.block) = A.map (·.block) ∨ ∀ ad, A' = some ad → lo ≤ ad.block) : (Value.slice A' n' c').ownBlock = (Value.slice A n c).ownBlock ∨ ∀ q, (Value.slice A' n' c').ownBlock = some q → lo ≤ q := by
  rcases h with h | h
  · left
    rw [own_map, own_map]
    exact h
  · right
    intro q hq
    cases A' with
    | none => cases hq
    | some ad =>
      have : q = ad.block := by simpa [Value.ownBlock] using hq.symm
      subst this
      exact h ad rfl
/-- a member is put in -/
theorem OwW.insIds {Ai : Option Addr} {n ci m p : Nat} {id : Int} {e : Ending} (h : OwW base w (.slice Ai n ci) vL vs us ids ll) (hm : m = ids.length + 1)
    (hi : InsOf w base Ai m ((ids.map iv).take p ++ .int .i64 id :: (ids.map iv).drop p) e w') :
    ∃ A' c', e = .returned (.slice A' m c') ∧ OwW base w' (.slice A' m c') vL vs us (ids.take p ++ id :: ids.drop p) ll ∧ w.grownBy w' (Value.slice Ai n ci).ownBlock := by
  obtain ⟨A', c', h1, h2, h3, h4⟩ := hi
  have he : (ids.map iv).take p ++ .int .i64 id :: (ids.map iv).drop p = (ids.take p ++ id :: ids.drop p).map iv := by
    simp [List.map_append, List.map_take, List.map_drop, iv]
  have hlen : (ids.take p ++ id :: ids.drop p).length = m := by
    rw [List.length_append, List.length_cons, hm, ← Nat.add_assoc, ← List.length_append, List.take_append_drop]
  rw [he] at h2
  rw [← own_map Ai n ci] at h3
  exact ⟨A', c', h1, h.idsT h3 (by rw [hlen]; exact h2) (own_or h4), h3⟩
theorem own_two (w : World) (base : Nat) (hb : base ≤ w.heap.size) : (w.alloc (.cells #[.int .i64 2] 3)).ownsRow base 3 1 (.slice (some ⟨w.heap.size, 0, none⟩) 1 1) ([2] : List Int).length (([2] : List Int).map iv) := own_new w base 3 #[.int .i64 2] hb (by simp [maxLen])
/-- the first level -/
theorem OwW.first (h : OwW base w vI vL vs us ids []) (hb : base ≤ w.heap.size) : OwW base ((w.alloc (.cells #[.int .i64 2] 3)).alloc (.cells #[.slice (some ⟨w.heap.size, 0, none⟩) 1 1] 22)) vI (.slice (some ⟨w.heap.size + 1, 0, none⟩) 1 1)
    [.slice (some ⟨w.heap.size, 0, none⟩) 1 1] [.slice (some ⟨w.heap.size, 0, none⟩) 1 1] ids [[2]] := by
  have b1 := d_al w (.cells #[.int .i64 2] 3)
  have o1 := own_two w base hb
  have z1 : (w.alloc (.cells #[.int .i64 2] 3)).heap.size = w.heap.size + 1 := by simp
  have h1 := h.quiet b1
  generalize w.alloc (.cells #[.int .i64 2] 3) = w1 at *
  have b2 := d_al w1 (.cells #[.slice (some ⟨w.heap.size, 0, none⟩) 1 1] 22)
  have o2 := own_new w1 base 22 #[.slice (some ⟨w.heap.size, 0, none⟩) 1 1] (by omega) (by simp [maxLen])
  rw [z1] at o2
  refine ⟨own_below h1.i b2, o2, rfl, fun k u l hk hl => ?_, fun k u g hk hu e => ?_, fun j k u v g hj hk _ _ => ?_⟩
  · have hk0 : k = 0 := by have := (List.getElem?_eq_some_iff.1 hk).1; simpa using this
    subst hk0
    simp at hk hl
    subst hk hl
    exact own_below o1 b2
  · have hk0 : k = 0 := by have := (List.getElem?_eq_some_iff.1 hk).1; simpa using this
    subst hk0
    simp at hk
    subst hk
    have : g = w.heap.size := by simpa [Value.ownBlock] using hu.symm
    subst this
    have := (h.i.lt _ e).2
    omega
  · have hj0 : j = 0 := by have := (List.getElem?_eq_some_iff.1 hj).1; simpa using this
    have hk0 : k = 0 := by have := (List.getElem?_eq_some_iff.1 hk).1; simpa using this
    omega
end

end Go.Proofs.Ytmganbdbihjbmaa

/-
  NODES IN MEMORY (layer 11): a node's cells; nodes in a row of the call's own, their Kids beside; appended, their Up written; told nodes as lists that are read.
-/
set_option linter.unusedVariables false
namespace Go.Proofs.Ytmganbdbihjbmaa
open Go.RowKit

/-- a node's cells: its Kids are slice u -/
def rnC (x : RN) (u : Value) : List Value := [.int .i64 (x.lev : Nat), .int .i64 (x.at_ : Nat), .bool x.red, .int .i64 (x.fr : Nat), .int .i64 (x.to : Nat), u, .int .i64 x.up]
theorem rnC_len (x : RN) (u : Value) : (rnC x u).length = 7 := rfl
theorem nodeInfoR : (Try.prog.info? 57).map (fun i => (i.zero, i.size, i.bytes)) = some (some (.agg #[.int .i64 0, .int .i64 0, .bool false, .int .i64 0, .int .i64 0, .slice none 0 0, .int .i64 0]), 7, 72) := by kernel_rfl
theorem nd_ne : (57 : TypeId) ≠ 3 := by decide
def kidV (l : List Nat) : List Value := l.map fun n : Nat => iv (n : Int)
/-- the cells of some nodes, one behind the other -/
def cellsR : List RN → List Value → List Value
  | x :: ns, u :: us => rnC x u ++ cellsR ns us
  | _, _ => []
theorem cellsR_len : ∀ (ns : List RN) (us : List Value), us.length = ns.length → (cellsR ns us).length = ns.length * 7
  | [], [], _ => rfl
  | x :: ns, u :: us, h => by
    rw [cellsR, List.length_append, cellsR_len ns us (by simpa using h), rnC_len, List.length_cons]
    omega
  | [], u :: us, h => by simp at h
  | x :: ns, [], h => by simp at h
theorem cellsR_append : ∀ (ns : List RN) (us : List Value) (ns' : List RN) (us' : List Value), us.length = ns.length → cellsR (ns ++ ns') (us ++ us') = cellsR ns us ++ cellsR ns' us'
  | [], [], _, _, _ => rfl
  | x :: ns, u :: us, ns', us', h => by
    rw [List.cons_append, List.cons_append, cellsR, cellsR, cellsR_append ns us ns' us' (by simpa using h), List.append_assoc]
  | [], u :: us, _, _, h => by simp at h
  | x :: ns, [], _, _, h => by simp at h
theorem cellsR_at : ∀ (ns : List RN) (us : List Value) (k j : Nat) (x : RN) (u : Value), us.length = ns.length → ns[k]? = some x → us[k]? = some u → j < 7 → (cellsR ns us)[k * 7 + j]? = (rnC x u)[j]?
  | [], _, k, j, x, u, _, h, _, _ => by simp at h
  | y :: ns, [], k, j, x, u, h, _, _, _ => by simp at h
  | y :: ns, v :: us, 0, j, x, u, _, hx, hu, hj => by
    simp at hx hu
    subst hx hu
    rw [cellsR, List.getElem?_append_left (by rw [rnC_len]; omega), Nat.zero_mul, Nat.zero_add]
  | y :: ns, v :: us, k + 1, j, x, u, h, hx, hu, hj => by
    rw [cellsR, List.getElem?_append_right (by rw [rnC_len]; omega), rnC_len, show (k + 1) * 7 + j - 7 = k * 7 + j by omega]
    exact cellsR_at ns us k j x u (by simpa using h) (by simpa using hx) (by simpa using hu) hj
theorem cellsR_up : ∀ (ns : List RN) (us : List Value) (k : Nat) (x : RN) (up : Int), us.length = ns.length → ns[k]? = some x → (cellsR ns us).set (k * 7 + 6) (.int .i64 up) = cellsR (ns.set k { x with up := up }) us
  | [], _, k, x, up, _, h => by simp at h
  | y :: ns, [], k, x, up, h, _ => by simp at h
  | y :: ns, v :: us, 0, x, up, _, hx => by
    simp at hx
    subst hx
    rw [cellsR, List.set_cons_zero, cellsR]
    rfl
  | y :: ns, v :: us, k + 1, x, up, h, hx => by
    rw [cellsR, List.set_cons_succ, cellsR, List.set_append_right _ _ (by rw [rnC_len]; omega), rnC_len, show (k + 1) * 7 + 6 - 7 = k * 7 + 6 by omega,
      cellsR_up ns us k x up (by simpa using h) (by simpa using hx)]

/-- nodes in a row of the call's own; us: the heads of their Kids -/
structure OwR (base : Nat) (w : World) (v : Value) (ns : List RN) (us : List Value) : Prop where
  len : us.length = ns.length
  row : w.ownsRow base 57 7 v ns.length (cellsR ns us)
  kids : ∀ (k : Nat) (x : RN) (u : Value), ns[k]? = some x → us[k]? = some u → w.ownsRow base 3 1 u x.kids.length (kidV x.kids)
section
variable {base : Nat} {w w' : World} {v : Value} {ns : List RN} {us : List Value}
theorem OwR.nil (base : Nat) (w : World) : OwR base w (.slice none 0 0) [] [] := ⟨rfl, World.ownsRow_nil _ _ _ _, fun k x u h => by simp at h⟩
theorem OwR.quiet (h : OwR base w v ns us) (hb : Below w.heap.size w w') : OwR base w' v ns us := ⟨h.len, own_below h.row hb, fun k x u hx hu => own_below (h.kids k x u hx hu) hb⟩
theorem OwR.far {g : Nat} {t : TypeId} {cs : Array Value} (h : OwR base w v ns us) (hg : w.grownBy w' (some g)) (hr : RowC w g t cs) (h1 : t ≠ 57) (h2 : t ≠ 3) : OwR base w' v ns us :=
  ⟨h.len, own_farT h.row hg hr h1, fun k x u hx hu => own_farT (h.kids k x u hx hu) hg hr h2⟩
/-- what turns one block that is none of these -/
theorem OwR.kept {row : Option Nat} (h : OwR base w v ns us) (hg : w.grownBy w' row) (h1 : v.ownBlock = none ∨ v.ownBlock ≠ row) (h2 : ∀ u ∈ us, u.ownBlock = none ∨ u.ownBlock ≠ row) : OwR base w' v ns us :=
  ⟨h.len, h.row.kept hg h1, fun k x u hx hu => (h.kids k x u hx hu).kept hg (h2 u (List.mem_of_getElem? hu))⟩
theorem OwR.ltK (h : OwR base w v ns us) {u : Value} (hu : u ∈ us) {g : Nat} (hg : u.ownBlock = some g) : base ≤ g ∧ g < w.heap.size := by
  obtain ⟨k, hk⟩ := List.mem_iff_getElem?.1 hu
  have h1 := (List.getElem?_eq_some_iff.1 hk).1
  exact (h.kids k _ u (List.getElem?_eq_getElem (show k < ns.length by rw [← h.len]; exact h1)) hk).lt g hg
/-- a node more -/
theorem OwR.snoc (h : OwR base w v ns us) {x : RN} {u v' : Value} (hu : w.ownsRow base 3 1 u x.kids.length (kidV x.kids)) (hg : w.grownBy w' v.ownBlock) (hn : w'.ownsRow base 57 7 v' (ns.length + 1) (cellsR ns us ++ rnC x u)) : OwR base w' v' (ns ++ [x]) (us ++ [u]) := by
  have hk : ∀ {q : Value} {n : Nat} {xs : List Value}, w.ownsRow base 3 1 q n xs → w'.ownsRow base 3 1 q n xs := by
    intro q n xs hq
    cases hv : v.ownBlock with
    | none => rw [hv] at hg; exact hq.kept hg (by cases q.ownBlock <;> simp)
    | some g =>
      rw [hv] at hg
      obtain ⟨cs, hr⟩ := own_tyT h.row hv
      exact own_farT hq hg hr nd_ne
  refine ⟨by simp [h.len], by rw [List.length_append, cellsR_append _ _ _ _ h.len]; simpa [cellsR] using hn, fun k y q hy hq => ?_⟩
  rcases Nat.lt_or_ge k ns.length with hlt | hge
  · rw [List.getElem?_append_left hlt] at hy
    rw [List.getElem?_append_left (by rw [h.len]; exact hlt)] at hq
    exact hk (h.kids k y q hy hq)
  · have hke : k = ns.length := by
      have := (List.getElem?_eq_some_iff.1 hy).1
      simp at this
      omega
    subst hke
    rw [List.getElem?_append_right (Nat.le_refl _), Nat.sub_self] at hy
    rw [← h.len, List.getElem?_append_right (Nat.le_refl _), Nat.sub_self] at hq
    simp at hy hq
    subst hy hq
    exact hk hu
/-- an Up is written -/
theorem OwR.up {g c : Nat} (h : OwR base w (.slice (some ⟨g, 0, none⟩) ns.length c) ns us) {k : Nat} {x : RN} (hx : ns[k]? = some x) (up : Int) : OwR base (w.setCell ⟨g, k * 7 + 6, none⟩ (.int .i64 up)) (.slice (some ⟨g, 0, none⟩) ns.length c) (ns.set k { x with up := up }) us := by
  obtain ⟨s1, s2⟩ := h.row.stored (k * 7 + 6) (.int .i64 up)
  rw [cellsR_up _ _ _ _ _ h.len hx] at s1
  obtain ⟨cs, hr⟩ := own_tyT h.row (g := g) rfl
  refine ⟨by rw [List.length_set]; exact h.len, by rw [List.length_set]; exact s1, fun i y u hy hu => ?_⟩
  rcases get_setT hy with ⟨rfl, rfl, hlt⟩ | ⟨hne, hy⟩
  · exact own_farT (h.kids i x u hx hu) s2 hr nd_ne
  · exact own_farT (h.kids i y u hy hu) s2 hr nd_ne
/-- a node's cells are read -/
theorem OwR.cell {g c : Nat} (h : OwR base w (.slice (some ⟨g, 0, none⟩) ns.length c) ns us) {k j : Nat} {x : RN} {u : Value} (hx : ns[k]? = some x) (hu : us[k]? = some u) (hj : j < 7) : w.cell? ⟨g, k * 7 + j, none⟩ = (rnC x u)[j]? := by
  have hk := (List.getElem?_eq_some_iff.1 hx).1
  rw [h.row.cellAt (k * 7 + j) (by omega), cellsR_at _ _ _ _ _ _ h.len hx hu hj]
theorem OwR.get_u (h : OwR base w v ns us) {k : Nat} (hk : k < ns.length) : ∃ u, us[k]? = some u := ⟨_, List.getElem?_eq_getElem (by rw [h.len]; exact hk)⟩
end

/-- append of one struct onto a row of the call's own, in a region -/
theorem wpList_append_node {P : Program} {w : World} {ops : Array Oper} {rest : List Oper} {o : Oper} {a : Act} {Q : Exit → Act → World → Prop} (hgd : Region.wanted o (yielded ops a.tmps) = true) (s x : Operand) (t : TypeId)
    (ho : o.op = .call { callee := .builtin .append, args := #[s, x], argTypes := #[t, t] })
    (base : Nat) (e : TypeId) (i : TypeInfo) (z : Value) (size bytes : Nat) (ht : P.underlying t = some (.slice e)) (hi : P.info? e = some i) (hz : i.zero = some z)
    (hsize : i.size = size) (hby : i.bytes = bytes) (hzs : z.cells.size = size) (hsz : 0 < size)
    (v : Value) (n : Nat) (xs : List Value) (hs : a.eval s = v) (hown : w.ownsRow base e size v n xs)
    (ad : Addr) (c : Nat) (news : List Value) (hx : a.eval x = .slice (some ad) 1 c) (hl : news.length = size) (hnews : ∀ j u, news[j]? = some u → w.cell? (ad.add j) = some u) (h1 : ∀ u ∈ news, u.oneCell' = true)
    (h63 : n + 1 ≤ maxLen) (hbytes : (n + 1) * bytes ≤ 140737488355328) (hbase : base ≤ w.heap.size)
    (h : ∀ v' w', w'.ownsRow base e size v' (n + 1) (xs ++ news) → w.grownBy w' v.ownBlock → (v'.ownBlock = v.ownBlock ∨ v'.ownBlock = some w.heap.size) → wpList P ops Q rest (a.put o.dst v') w') : wpList P ops Q (o :: rest) a w := by
  obtain ⟨v', w', hrun, h2, h3, _, h5⟩ := run_append_own_at (P := P) w base t o.type e i z size bytes ht hi hz hsize hby hzs hsz v n xs hown ad 1 c news (by omega) hnews h1 h63 hbytes hbase
  exact wpList_appendT hgd s x t t ho _ _ hs hx hrun (h v' w' h2 h3 h5)

end Go.Proofs.Ytmganbdbihjbmaa

/-
  CONTRACT of the document's join (coterieref11): a node more, its kids' Up written.
-/
set_option linter.unusedVariables false
namespace Go.Proofs.Ytmganbdbihjbmaa
open Go.RowKit

theorem own_someZ {w : World} {base size : Nat} {e : TypeId} {A : Option Addr} {n c : Nat} {xs : List Value} (h : w.ownsRow base e size (.slice A n c) n xs) (hn : 0 < n) : ∃ g, A = some ⟨g, 0, none⟩ := by
  obtain ⟨_, ⟨h, _⟩ | ⟨g, c2, cur, h, _⟩⟩ := h
  · injection h with _ h
    omega
  · injection h with h
    exact ⟨g, h⟩
def upN (l : List RN) (k : Nat) (up : Int) : List RN := l.modify k fun x => { x with up := up }
def upAll (l : List RN) (ks : List Nat) (up : Int) : List RN := ks.foldl (fun l k => upN l k up) l
theorem upN_len (l : List RN) (k : Nat) (up : Int) : (upN l k up).length = l.length := by simp [upN]
theorem upN_set {l : List RN} {k : Nat} {x : RN} (h : l[k]? = some x) (up : Int) : l.set k { x with up := up } = upN l k up := by
  apply List.ext_getElem?
  intro i
  rw [upN, List.getElem?_modify, List.getElem?_set]
  by_cases hi : k = i
  · subst hi
    rw [h]
    have := (List.getElem?_eq_some_iff.1 h).1
    simp [this]
  · simp [hi]
theorem upAll_succ (l : List RN) (ks : List Nat) (up : Int) {j : Nat} (h : j < ks.length) : upAll l (ks.take (j + 1)) up = upN (upAll l (ks.take j) up) ks[j] up := by
  rw [List.take_succ_eq_append_getElem h, upAll, upAll, List.foldl_append]
  rfl
theorem upAll_len (ks : List Nat) (up : Int) : ∀ l : List RN, (upAll l ks up).length = l.length := by
  induction ks with
  | nil => intro l; rfl
  | cons k ks ih => intro l; rw [upAll, List.foldl_cons, ← upAll, ih, upN_len]
def ndZ (lev a : Nat) (red : Bool) : Array Value := #[.int .i64 (lev : Nat), .int .i64 (a : Nat), .bool red, .int .i64 0, .int .i64 0, .slice none 0 0, .int .i64 0]
def JoinPost (base : Nat) (w : World) (v : Value) (ns : List RN) (us : List Value) (q : Value) (x : RN) (e : Ending) (w' : World) : Prop :=
  ∃ v', e = .returned (.tuple #[v', .int .i64 (ns.length : Nat)]) ∧ OwR base w' v' (upAll (ns ++ [x]) x.kids (ns.length : Nat)) (us ++ [q]) ∧ w.grownBy w' v.ownBlock ∧ (v'.ownBlock = v.ownBlock ∨ ∃ y, v'.ownBlock = some y ∧ w.heap.size ≤ y)

theorem add_zeroR (g j : Nat) : (⟨g, 0, none⟩ : Addr).add j = ⟨g, j, none⟩ := by
  simp only [Addr.add]
  split <;> simp_all
theorem rnInfo2 : (Try.prog.info? 57).map (·.size) = some 7 := by kernel_rfl
/-- what is carried while a node is made in a box -/
structure JS (base : Nat) (w wx : World) (gB : Nat) (cs : Array Value) (v : Value) (ns : List RN) (us : List Value) (q : Value) (ks : List Nat) : Prop where
  m : MsB base w wx [(gB, 57, cs)]
  r : OwR base wx v ns us
  k : wx.ownsRow base 3 1 q ks.length (kidV ks)
  g : w.grownBy wx v.ownBlock
  s : wx.heap.size = gB + 1
  e : gB = w.heap.size
  v : ∀ x, v.ownBlock = some x → x < gB
  u : ∀ y ∈ us, ∀ x, y.ownBlock = some x → x < gB
theorem JS.set {base : Nat} {w wx : World} {gB : Nat} {cs : Array Value} {v : Value} {ns : List RN} {us : List Value} {q : Value} {ks : List Nat} (h : JS base w wx gB cs v ns us q ks) (hb : base ≤ gB) (i : Nat) (y : Value) :
    JS base w (wx.setCell ⟨gB, i, none⟩ y) gB (cs.setIfInBounds i y) v ns us q ks := by
  have hg := grown_setCell wx gB i y
  refine ⟨h.m.set hb (by simp) i y, h.r.kept hg ?_ fun z hz => ?_, own_farT h.k hg (h.m.get 0 rfl) nd_ne, h.g.andThen hg (fun j hj => ?_), by simpa using h.s, h.e, h.v, h.u⟩
  · cases e : v.ownBlock with
    | none => exact .inl rfl
    | some x => exact .inr (fun hh => by injection hh with hh; have := h.v x e; omega)
  · cases e : z.ownBlock with
    | none => exact .inl rfl
    | some x => exact .inr (fun hh => by injection hh with hh; have := h.u z hz x e; omega)
  · injection hj with hj
    have := h.e
    exact .inl (by omega)

end Go.Proofs.Ytmganbdbihjbmaa

