import Derived.Test.YtmganbdbihjbmaaK17
import Derived.Test.YtmganbdbihjbmaaK21
import Derived.Test.YtmganbdbihjbmaaK19
/-
  TREES OF THE CALL'S OWN: members and levels in rows that it owns, no two in one block; what is told of them as told trees.
-/
set_option linter.unusedVariables false
namespace Go.Proofs.Ytmganbdbihjbmaa
open Go.RowKit

theorem InsI_any (base : Nat) (A : Option Addr) (n c i vb : Nat) (x : Value) (xs : List Value) (w : World) (hn6 : n ≤ 1000000) (hin : i ≤ n) (h1x : x.oneCell' = true) (h1 : ∀ u ∈ xs, u.oneCell' = true) (hbase : base ≤ w.heap.size)
    (h : w.ownsRow base 3 1 (.slice A n c) n xs) (hv : RowC w vb 3 #[x]) (hne : ∀ ad, A = some ad → vb ≠ ad.block) :
    Calls Try.prog 63 #[.slice A n c, .int .i64 (i : Nat), .slice (some ⟨vb, 0, none⟩) 1 1] w (InsOf w base A (n + 1) (xs.take i ++ x :: xs.drop i)) := by
  have hxl : xs.length = n := by simpa using h.1
  rcases Nat.eq_or_lt_of_le hin with rfl | hlt
  · rw [List.take_of_length_le (by omega), List.drop_of_length_le (by omega)]
    exact InsI_end base A i c vb x xs w hn6 hbase h1x h hv
  · obtain ⟨g, rfl⟩ := own_someT h (by omega)
    obtain ⟨_, _, e0, hc, _⟩ := own_formT h
    injection e0 with _ _ e3
    subst e3
    rcases Nat.eq_or_lt_of_le hc with he | hc2
    · exact InsI_grow base g n c i vb x xs w hn6 hlt he.symm h1x h1 hbase h hv (hne _ rfl)
    · exact InsI_room base g n c i vb x xs w hn6 hlt hc2 h1x h1 h hv (hne _ rfl)

theorem own_tyT {w : World} {base : Nat} {e : TypeId} {size : Nat} {v : Value} {n : Nat} {xs : List Value} (h : w.ownsRow base e size v n xs) {g : Nat} (hg : v.ownBlock = some g) : ∃ cs, RowC w g e cs := by
  rcases h.2 with ⟨rfl, _⟩ | ⟨g', cap, cur, rfl, _, hc, _⟩
  · cases hg
  · have : g' = g := by simpa [Value.ownBlock] using hg
    subst this
    exact ⟨cur, hc⟩
theorem ty_neT {w : World} {g : Nat} {t t' : TypeId} {cs cs' : Array Value} (h : RowC w g t cs) (h' : RowC w g t' cs') : t = t' := by
  unfold RowC at h h'
  rw [h] at h'
  injection h' with h'
  injection h'
theorem own_farT {w w' : World} {base : Nat} {e : TypeId} {size : Nat} {v : Value} {n : Nat} {xs : List Value} {g : Nat} {t : TypeId} {cs : Array Value} (h : w.ownsRow base e size v n xs) (hg : w.grownBy w' (some g)) (hr : RowC w g t cs) (hne : t ≠ e) : w'.ownsRow base e size v n xs :=
  h.kept hg (.inr fun e' => by
    obtain ⟨cs', h'⟩ := own_tyT h e'
    exact hne (ty_neT hr h'))
theorem int_list_ne : (3 : TypeId) ≠ 22 := by decide

/-- a tree in rows of the call's own: the levels' row holds vs, the levels themselves lie in us -/
structure OwW (base : Nat) (w : World) (vI vL : Value) (vs us : List Value) (ids : List Int) (ll : List (List Int)) : Prop where
  i : w.ownsRow base 3 1 vI ids.length (ids.map iv)
  l : w.ownsRow base 22 1 vL ll.length vs
  n : us.length = ll.length
  r : ∀ (k : Nat) (u : Value) (l : List Int), us[k]? = some u → ll[k]? = some l → w.ownsRow base 3 1 u l.length (l.map iv)
  ai : ∀ (k : Nat) (u : Value) (g : Nat), us[k]? = some u → u.ownBlock = some g → vI.ownBlock ≠ some g
  al : ∀ (j k : Nat) (u v : Value) (g : Nat), us[j]? = some u → us[k]? = some v → u.ownBlock = some g → v.ownBlock = some g → j = k

section
variable {base : Nat} {w w' : World} {vI vL : Value} {vs us : List Value} {ids : List Int} {ll : List (List Int)}
theorem OwW.m (h : OwW base w vI vL vs us ids ll) : vs.length = ll.length := by have := h.l.1; omega
theorem OwW.at_ (h : OwW base w vI vL vs us ids ll) {k : Nat} {u : Value} (hk : us[k]? = some u) : ∃ l, ll[k]? = some l ∧ w.ownsRow base 3 1 u l.length (l.map iv) := by
  obtain ⟨h1, _⟩ := List.getElem?_eq_some_iff.1 hk
  have h2 : ll[k]? = some (ll[k]'(by rw [← h.n]; exact h1)) := List.getElem?_eq_getElem _
  exact ⟨_, h2, h.r k u _ hk h2⟩
/-- what turns one block that is none of the tree's, or none that was there -/
theorem OwW.kept {row : Option Nat} (h : OwW base w vI vL vs us ids ll) (hg : w.grownBy w' row) (h1 : vI.ownBlock = none ∨ vI.ownBlock ≠ row) (h2 : vL.ownBlock = none ∨ vL.ownBlock ≠ row) (h3 : ∀ (k : Nat) (u : Value), us[k]? = some u → u.ownBlock = none ∨ u.ownBlock ≠ row) : OwW base w' vI vL vs us ids ll :=
  ⟨h.i.kept hg h1, h.l.kept hg h2, h.n, fun k u l hk hl => (h.r k u l hk hl).kept hg (h3 k u hk), h.ai, h.al⟩
theorem OwW.quiet (h : OwW base w vI vL vs us ids ll) (hb : Below w.heap.size w w') : OwW base w' vI vL vs us ids ll :=
  ⟨own_below h.i hb, own_below h.l hb, h.n, fun k u l hk hl => own_below (h.r k u l hk hl) hb, h.ai, h.al⟩
theorem OwW.far {g : Nat} {t : TypeId} {cs : Array Value} (h : OwW base w vI vL vs us ids ll) (hg : w.grownBy w' (some g)) (hr : RowC w g t cs) (h1 : t ≠ 3) (h2 : t ≠ 22) : OwW base w' vI vL vs us ids ll :=
  ⟨own_farT h.i hg hr h1, own_farT h.l hg hr h2, h.n, fun k u l hk hl => own_farT (h.r k u l hk hl) hg hr h1, h.ai, h.al⟩
/-- the members turn -/
theorem OwW.idsT (h : OwW base w vI vL vs us ids ll) {vI' : Value} {ids' : List Int} (hg : w.grownBy w' vI.ownBlock) (hn : w'.ownsRow base 3 1 vI' ids'.length (ids'.map iv))
    (hb : vI'.ownBlock = vI.ownBlock ∨ ∀ q, vI'.ownBlock = some q → w.heap.size ≤ q) : OwW base w' vI' vL vs us ids' ll := by
  refine ⟨hn, ?_, h.n, fun k u l hk hl => (h.r k u l hk hl).kept hg ?_, fun k u g hk hu e => ?_, h.al⟩
  · cases hi : vI.ownBlock with
    | none => rw [hi] at hg; exact h.l.kept hg (by cases vL.ownBlock <;> simp)
    | some g =>
      rw [hi] at hg
      obtain ⟨cs, hr⟩ := own_tyT h.i hi
      exact own_farT h.l hg hr int_list_ne
  · cases hu : u.ownBlock with
    | none => exact .inl rfl
    | some g => exact .inr fun e => h.ai k u g hk hu e.symm
  · rcases hb with hb | hb
    · rw [hb] at e
      exact h.ai k u g hk hu e
    · have h1 := hb g e
      obtain ⟨l, _, hl⟩ := h.at_ hk
      have h2 := (hl.lt g hu).2
      omega
theorem get_setT {α : Type} {xs : List α} {k j : Nat} {x y : α} (h : (xs.set k x)[j]? = some y) : (j = k ∧ y = x ∧ k < xs.length) ∨ (j ≠ k ∧ xs[j]? = some y) := by
  rw [List.getElem?_set] at h
  by_cases hjk : k = j
  · rw [if_pos hjk] at h
    split at h
    · exact .inl ⟨hjk.symm, (Option.some.inj h).symm, by omega⟩
    · cases h
  · rw [if_neg hjk] at h
    exact .inr ⟨Ne.symm hjk, h⟩
/-- a level turns -/
theorem OwW.level (h : OwW base w vI vL vs us ids ll) {k g : Nat} {u u' : Value} {l' : List Int} (hk : us[k]? = some u) (hu : u.ownBlock = some g) (hg : w.grownBy w' (some g)) (hn : w'.ownsRow base 3 1 u' l'.length (l'.map iv))
    (hb : u'.ownBlock = some g ∨ ∀ q, u'.ownBlock = some q → w.heap.size ≤ q) : OwW base w' vI vL vs (us.set k u') ids (ll.set k l') := by
  obtain ⟨l, hl, hol⟩ := h.at_ hk
  obtain ⟨cs, hr⟩ := own_tyT hol hu
  have hnew : ∀ j v q, us[j]? = some v → v.ownBlock = some q → u'.ownBlock = some q → j = k := fun j v q hj hv hq => by
    rcases hb with hb | hb
    · have : q = g := by rw [hq] at hb; exact Option.some.inj hb
      subst this
      exact h.al j k v u q hj hk hv hu
    · obtain ⟨l2, _, h2⟩ := h.at_ hj
      have h3 := (h2.lt q hv).2
      have h4 := hb q hq
      omega
  refine ⟨h.i.kept hg (.inr (h.ai k u g hk hu)), by rw [List.length_set]; exact own_farT h.l hg hr int_list_ne, by rw [List.length_set, List.length_set]; exact h.n, fun j v m hj hm => ?_, fun j v q hj hv e => ?_, fun i j v v' q hi hj hv hv' => ?_⟩
  · rcases get_setT hj with ⟨rfl, rfl, h1⟩ | ⟨hne, hj⟩
    · rw [List.getElem?_set_self (by rw [← h.n]; exact h1)] at hm
      injection hm with hm
      subst hm
      exact hn
    · rw [List.getElem?_set_ne (Ne.symm hne)] at hm
      refine (h.r j v m hj hm).kept hg ?_
      cases hv : v.ownBlock with
      | none => exact .inl rfl
      | some q => exact .inr fun e => hne (h.al j k v u g hj hk (by rw [hv]; exact e) hu)
  · rcases get_setT hj with ⟨rfl, rfl, h1⟩ | ⟨hne, hj⟩
    · rcases hb with hb | hb
      · exact h.ai j u g hk hu (by rw [e, ← hv, hb])
      · have h2 := (h.i.lt q e).2
        have h3 := hb q hv
        omega
    · exact h.ai j v q hj hv e
  · rcases get_setT hi with ⟨rfl, rfl, h1⟩ | ⟨hne, hi2⟩
    · rcases get_setT hj with ⟨rfl, rfl, _⟩ | ⟨hne2, hj⟩
      · rfl
      · exact (hnew j v' q hj hv' hv).symm
    · rcases get_setT hj with ⟨rfl, rfl, _⟩ | ⟨hne2, hj2⟩
      · exact hnew i v q hi2 hv hv'
      · exact h.al i j v v' q hi2 hj2 hv hv'
/-- the levels' row turns in one place -/
theorem OwW.store {gl cl k : Nat} {u : Value} (h : OwW base w vI (.slice (some ⟨gl, 0, none⟩) ll.length cl) vs us ids ll) : OwW base (w.setCell ⟨gl, k, none⟩ u) vI (.slice (some ⟨gl, 0, none⟩) ll.length cl) (vs.set k u) us ids ll := by
  obtain ⟨s1, s2⟩ := h.l.stored k u
  obtain ⟨cs, hr⟩ := own_tyT h.l (g := gl) rfl
  exact ⟨own_farT h.i s2 hr int_list_ne.symm, s1, h.n, fun j v l hj hl => own_farT (h.r j v l hj hl) s2 hr int_list_ne.symm, h.ai, h.al⟩
/-- a level more -/
theorem OwW.snoc (h : OwW base w vI vL vs us ids ll) {w1 : World} {u vL' : Value} {l : List Int} (hb : Below w.heap.size w w1) (hu : w1.ownsRow base 3 1 u l.length (l.map iv)) (hf : ∀ q, u.ownBlock = some q → w.heap.size ≤ q)
    (hg : w1.grownBy w' vL.ownBlock) (hn : w'.ownsRow base 22 1 vL' (ll.length + 1) (vs ++ [u])) : OwW base w' vI vL' (vs ++ [u]) (us ++ [u]) ids (ll ++ [l]) := by
  have h1 := h.quiet hb
  have hk : ∀ {v : Value} {n : Nat} {xs : List Value}, w1.ownsRow base 3 1 v n xs → w'.ownsRow base 3 1 v n xs := by
    intro v n xs hv
    cases hl : vL.ownBlock with
    | none => rw [hl] at hg; exact hv.kept hg (by cases v.ownBlock <;> simp)
    | some g =>
      rw [hl] at hg
      obtain ⟨cs, hr⟩ := own_tyT h1.l hl
      exact own_farT hv hg hr int_list_ne.symm
  have hcase : ∀ {j : Nat} {v : Value}, (us ++ [u])[j]? = some v → us[j]? = some v ∨ (j = us.length ∧ v = u) := by
    intro j v hj
    rcases Nat.lt_or_ge j us.length with hlt | hge
    · rw [List.getElem?_append_left hlt] at hj; exact .inl hj
    · rw [List.getElem?_append_right hge] at hj
      have h2 := (List.getElem?_eq_some_iff.1 hj).1
      simp only [List.length_cons, List.length_nil] at h2
      have : j = us.length := by omega
      subst this
      simp at hj
      exact .inr ⟨rfl, hj.symm⟩
  refine ⟨hk h1.i, by rw [List.length_append]; exact hn, by simp [h.n], fun j v m hj hm => ?_, fun j v q hj hv e => ?_, fun i j v v' q hi hj hv hv' => ?_⟩
  · rcases hcase hj with hj | ⟨rfl, rfl⟩
    · have hlt := (List.getElem?_eq_some_iff.1 hj).1
      rw [List.getElem?_append_left (by rw [← h.n]; exact hlt)] at hm
      exact hk (h1.r j v m hj hm)
    · rw [h.n, List.getElem?_append_right (Nat.le_refl _)] at hm
      simp at hm
      subst hm
      exact hk hu
  · rcases hcase hj with hj | ⟨rfl, rfl⟩
    · exact h.ai j v q hj hv e
    · have h2 := hf q hv
      have h3 := (h.i.lt q e).2
      omega
  · rcases hcase hi with hi2 | ⟨rfl, rfl⟩
    · rcases hcase hj with hj2 | ⟨rfl, rfl⟩
      · exact h.al i j v v' q hi2 hj2 hv hv'
      · obtain ⟨_, _, h2⟩ := h.at_ hi2
        have h3 := (h2.lt q hv).2
        have h4 := hf q hv'
        omega
    · rcases hcase hj with hj | ⟨rfl, rfl⟩
      · obtain ⟨_, _, h2⟩ := h.at_ hj
        have h3 := (h2.lt q hv').2
        have h4 := hf q hv
        omega
      · rfl
/-- the last level gone -/
theorem OwW.lastOff (h : OwW base w vI vL vs us ids ll) {k g : Nat} {vL' : Value} (hk : k + 1 = ll.length) (hl : vL.ownBlock = some g) (hg : w.grownBy w' (some g)) (hn : w'.ownsRow base 22 1 vL' k (vs.eraseIdx k)) : OwW base w' vI vL' (vs.take k) (us.take k) ids (ll.take k) := by
  obtain ⟨cs, hr⟩ := own_tyT h.l hl
  have he : vs.eraseIdx k = vs.take k := by rw [List.eraseIdx_eq_take_drop_succ, List.drop_of_length_le (by rw [h.m]; omega), List.append_nil]
  rw [he] at hn
  have ht : ∀ {α : Type} {xs : List α} {j : Nat} {x : α}, (xs.take k)[j]? = some x → xs[j]? = some x := by
    intro α xs j x hj
    rw [List.getElem?_take] at hj
    split at hj
    · exact hj
    · cases hj
  exact ⟨own_farT h.i hg hr int_list_ne.symm, by rw [List.length_take, ← hk, Nat.min_eq_left (by omega)]; exact hn, by rw [List.length_take, List.length_take, h.n], fun j v m hj hm => own_farT (h.r j v m (ht hj) (ht hm)) hg hr int_list_ne.symm,
    fun j v q hj hv e => h.ai j v q (ht hj) hv e, fun i j v v' q hi hj hv hv' => h.al i j v v' q (ht hi) (ht hj) hv hv'⟩
end

theorem own_thaw {w : World} {base : Nat} {e : TypeId} {n c : Nat} {A : Option Addr} {xs : List Value} (h : w.ownsRow base e 1 (.slice A n c) n xs) : ∀ ad, A = some ad → thawed w ad.block := by
  rintro ad rfl
  obtain ⟨cs, hr⟩ := own_tyT h (g := ad.block) rfl
  exact ⟨cs, _, hr⟩
/-- such a tree as a told one -/
theorem OwW.shN {base lo : Nat} {w : World} {Ai Al : Option Addr} {ni ci nl cl : Nat} {vs : List Value} {ids : List Int} {ll : List (List Int)} (hb : lo ≤ base) (h : OwW base w (.slice Ai ni ci) (.slice Al nl cl) vs vs ids ll) :
    ShN lo w w.heap.size Ai ni ci Al nl cl ids ll ∧ ThawS w Ai Al nl := by
  obtain ⟨A1, c1, e1, hc1, hm1⟩ := own_formT h.i
  injection e1 with a1 a2 a3
  subst a1 a2 a3
  obtain ⟨A2, c2, e2, hc2, hm2⟩ := own_formT h.l
  injection e2 with b1 b2 b3
  subst b1 b2 b3
  have hlv : Lvs w w.heap.size vs ll := ⟨h.n, fun k v l hv hl => by
    have hr := h.r k v l hv hl
    obtain ⟨A, c, e, hc, hm⟩ := own_formT hr
    subst e
    exact ⟨A, c, rfl, hc, hm, Rd.of_own hr⟩⟩
  have hrv : Rd w w.heap.size Al ll.length vs := Rd.of_own h.l
  refine ⟨⟨⟨rfl, rfl, hc1, hc2, hm1, hm2, Rd.of_own h.i, vs, hrv, hlv⟩, NewA.of_own h.i hb, NewA.of_own h.l hb, vs, hrv, hlv, fun v hv A n c e => ?_⟩, own_thaw h.i, fun b o j e hj A m c hcell ad had => ?_⟩
  · obtain ⟨k, hk⟩ := List.mem_iff_getElem?.1 hv
    obtain ⟨l, _, hl⟩ := h.at_ hk
    subst e
    obtain ⟨_, _, e, _⟩ := own_formT hl
    injection e with _ e2
    subst e2
    exact NewA.of_own hl hb
  · obtain ⟨b', o', e', _, hc'⟩ := hrv.pos (by omega)
    rw [e] at e'
    injection e' with e'
    injection e' with e3 e4
    subst e3 e4
    have hjl : j < vs.length := by rw [h.m]; exact hj
    have := hc' j _ (List.getElem?_eq_getElem hjl)
    rw [hcell] at this
    injection this with this
    obtain ⟨l, _, hl⟩ := h.at_ (List.getElem?_eq_getElem hjl)
    rw [← this] at hl
    obtain ⟨_, _, e5, _⟩ := own_formT hl
    injection e5 with _ e6
    subst e6
    exact own_thaw hl ad had

end Go.Proofs.Ytmganbdbihjbmaa

/-
  TREES OF THE CALL'S OWN, level by level: what a level's row holds, a number written, a number put in; boxes kept beside.
-/
set_option linter.unusedVariables false
namespace Go.Proofs.Ytmganbdbihjbmaa
open Go.RowKit

/-- boxes that lie beside rows from B on -/
structure MsB (B : Nat) (w0 w : World) (L : List (Nat × TypeId × Array Value)) : Prop where
  old : Below B w0 w
  rows : ∀ p ∈ L, RowC w p.1 p.2.1 p.2.2
section
variable {B : Nat} {w0 w w' : World} {L : List (Nat × TypeId × Array Value)}
theorem MsB.of (h : Ms w0 w L) (hB : B ≤ w0.heap.size) : MsB B w0 w L := ⟨h.old.mono hB, h.rows⟩
theorem MsB.get (h : MsB B w0 w L) (i : Nat) {g : Nat} {t : TypeId} {cs : Array Value} (hi : L[i]? = some (g, t, cs)) : RowC w g t cs := h.rows _ (List.mem_of_getElem? hi)
theorem MsB.call (h : MsB B w0 w L) (hb : Below w.heap.size w w') (hB : B ≤ w.heap.size) : MsB B w0 w' L := ⟨h.old.trans (hb.mono hB), fun p hp => (h.rows p hp).call hb⟩
theorem MsB.turn (h : MsB B w0 w L) {row : Option Nat} (hg : w.grownBy w' row) (hs : B ≤ w.heap.size) (hr : ∀ g, row = some g → B ≤ g ∧ ∃ t cs, RowC w g t cs ∧ ∀ p ∈ L, t ≠ p.2.1) : MsB B w0 w' L :=
  ⟨h.old.grown hg hs (fun g e => (hr g e).1), fun p hp => (h.rows p hp).grownT hg (fun g e => by
    obtain ⟨_, t, cs, h1, h2⟩ := hr g e
    rintro rfl
    exact h2 p hp (ty_neT h1 (h.rows p hp)))⟩
theorem MsB.set {g : Nat} {t : TypeId} {cs : Array Value} (h : MsB B w0 w ((g, t, cs) :: L)) (hg : B ≤ g) (hne : ∀ p ∈ L, p.1 ≠ g) (i : Nat) (v : Value) : MsB B w0 (w.setCell ⟨g, i, none⟩ v) ((g, t, cs.setIfInBounds i v) :: L) :=
  ⟨h.old.setCell hg _, fun p hp => by
    rcases List.mem_cons.1 hp with rfl | hp
    · exact (h.rows (g, t, cs) (by simp)).set_ i v
    · exact (h.rows p (by simp [hp])).far (hne p hp) v⟩
theorem grown_setCell (w : World) (g i : Nat) (v : Value) : w.grownBy (w.setCell ⟨g, i, none⟩ v) (some g) :=
  ⟨rfl, rfl, rfl, by simp, fun k _ hk => heap_setCell_other w ⟨g, i, none⟩ k v (fun e => hk (by simp [e]))⟩
end

def castL (l : List Nat) : List Int := l.map fun n : Nat => (n : Int)
theorem castL_len (l : List Nat) : (castL l).length = l.length := by simp [castL]
theorem natL_cast (l : List Nat) : natL (castL l) = l := by simp [natL, castL, Function.comp_def]
theorem levI_cast (lv : List (List Nat)) : levI lv = lv.map castL := rfl
theorem levI_set (X : List (List Nat)) (k : Nat) (y : List Nat) : (levI X).set k (castL y) = levI (X.set k y) := by rw [levI_cast, levI_cast, List.map_set]
theorem levI_get {X : List (List Nat)} {k : Nat} {l : List Nat} (h : X[k]? = some l) : (levI X)[k]? = some (castL l) := by rw [levI_cast, List.getElem?_map, h]; rfl
theorem levI_lenX (X : List (List Nat)) : (levI X).length = X.length := by simp [levI]
theorem castL_set (l : List Nat) (j y : Nat) : (castL l).set j (y : Int) = castL (l.set j y) := by simp [castL, List.map_set]

section
variable {base : Nat} {w w' : World} {vI : Value} {Al : Option Addr} {nl cl : Nat} {vs us : List Value} {ids : List Int} {X : List (List Nat)}
/-- a level's row -/
theorem OwW.lvl (h : OwW base w vI (.slice Al nl cl) vs vs ids (levI X)) {k : Nat} {l : List Nat} (hk : X[k]? = some l) (hl : 0 < l.length) :
    ∃ gl g c, Al = some ⟨gl, 0, none⟩ ∧ nl = X.length ∧ nl ≤ cl ∧ cl ≤ maxLen ∧ l.length ≤ c ∧ c ≤ maxLen ∧ vs[k]? = some (.slice (some ⟨g, 0, none⟩) l.length c) ∧ w.cell? ⟨gl, k, none⟩ = some (.slice (some ⟨g, 0, none⟩) l.length c) ∧
      w.ownsRow base 3 1 (.slice (some ⟨g, 0, none⟩) l.length c) l.length ((castL l).map iv) ∧ gl ≠ g := by
  have hkl : k < X.length := (List.getElem?_eq_some_iff.1 hk).1
  have hkv : k < vs.length := by rw [h.m, levI_lenX]; exact hkl
  have hr := h.r k vs[k] _ (List.getElem?_eq_getElem hkv) (levI_get hk)
  rw [castL_len] at hr
  obtain ⟨A, c, e, hc, hm⟩ := own_formT hr
  rw [e] at hr
  obtain ⟨g, rfl⟩ := own_someT hr hl
  have hol := h.l
  rw [levI_lenX] at hol
  obtain ⟨A2, c2, e2, hc2, hm2⟩ := own_formT hol
  injection e2 with a1 a2 a3
  subst a1 a2 a3
  obtain ⟨gl, rfl⟩ := own_someT hol (by omega)
  have hcell := hol.cells (g := gl) rfl k _ (List.getElem?_eq_getElem hkv)
  rw [Addr.add_lit, Nat.zero_add, e] at hcell
  refine ⟨gl, g, c, rfl, rfl, hc2, hm2, hc, hm, by rw [List.getElem?_eq_getElem hkv, e], hcell, hr, ?_⟩
  rintro rfl
  obtain ⟨cs, h1⟩ := own_tyT hol (g := gl) rfl
  obtain ⟨cs', h2⟩ := own_tyT hr (g := gl) rfl
  exact int_list_ne (ty_neT h2 h1)
/-- a level's numbers -/
theorem lvl_cell {w : World} {g c : Nat} {l : List Nat} (h : w.ownsRow base 3 1 (.slice (some ⟨g, 0, none⟩) l.length c) l.length ((castL l).map iv)) {j : Nat} (hj : j < l.length) : w.cell? ⟨g, j, none⟩ = some (.int .i64 (l[j] : Nat)) ∧ w.frozen? ⟨g, j, none⟩ = false := by
  refine ⟨?_, h.frozenAt j⟩
  rw [h.cellAt j (by omega), List.getElem?_map, castL, List.getElem?_map, List.getElem?_eq_getElem hj]
  rfl
theorem set_same {α : Type} {xs : List α} {k : Nat} {x : α} (h : xs[k]? = some x) : xs.set k x = xs := by
  obtain ⟨h1, h2⟩ := List.getElem?_eq_some_iff.1 h
  rw [← h2, List.set_getElem_self]
/-- a number of a level is written -/
theorem OwW.num (h : OwW base w vI (.slice Al nl cl) vs vs ids (levI X)) {k g c : Nat} {l : List Nat} (hk : X[k]? = some l) (hv : vs[k]? = some (.slice (some ⟨g, 0, none⟩) l.length c)) (j y : Nat) :
    OwW base (w.setCell ⟨g, j, none⟩ (.int .i64 (y : Nat))) vI (.slice Al nl cl) vs vs ids (levI (X.set k (l.set j y))) := by
  have hr := h.r k _ _ hv (levI_get hk)
  rw [castL_len] at hr
  obtain ⟨s1, s2⟩ := hr.stored j (.int .i64 (y : Nat))
  have hs : ((castL l).map iv).set j (.int .i64 (y : Nat)) = (castL (l.set j y)).map iv := by
    rw [← castL_set, List.map_set]; rfl
  rw [hs] at s1
  have := h.level hv (g := g) rfl s2 (u' := .slice (some ⟨g, 0, none⟩) l.length c) (l' := castL (l.set j y)) (by rw [castL_len, List.length_set]; exact s1) (.inl rfl)
  rwa [set_same hv, levI_set] at this
/-- a number is put into a level -/
theorem OwW.ins (h : OwW base w vI (.slice Al nl cl) vs vs ids (levI X)) {k g c n j : Nat} {l : List Nat} (hk : X[k]? = some l) (hv : vs[k]? = some (.slice (some ⟨g, 0, none⟩) l.length c)) (hn : n = l.length + 1) {e : Ending}
    (hi : InsOf w base (some ⟨g, 0, none⟩) n (((castL l).map iv).take j ++ .int .i64 2 :: ((castL l).map iv).drop j) e w') :
    ∃ A' c', e = .returned (.slice A' n c') ∧ OwW base w' vI (.slice Al nl cl) vs (vs.set k (.slice A' n c')) ids (levI (X.set k (l.take j ++ 2 :: l.drop j))) ∧ w.grownBy w' (some g) := by
  obtain ⟨A', c', h1, h2, h3, h4⟩ := hi
  have he : ((castL l).map iv).take j ++ .int .i64 2 :: ((castL l).map iv).drop j = (castL (l.take j ++ 2 :: l.drop j)).map iv := by
    simp [castL, List.map_append, List.map_take, List.map_drop, iv]
  rw [he] at h2
  have hlen : (castL (l.take j ++ 2 :: l.drop j)).length = n := by
    rw [castL_len, List.length_append, List.length_cons, hn, ← Nat.add_assoc, ← List.length_append, List.take_append_drop]
  refine ⟨A', c', h1, ?_, h3⟩
  have := h.level hv (g := g) rfl h3 (u' := .slice A' n c') (l' := castL (l.take j ++ 2 :: l.drop j)) (by rw [hlen]; exact h2) (by
    rcases h4 with h4 | h4
    · left
      cases A' with
      | none => cases h4
      | some ad =>
        have : ad.block = g := by simpa using h4
        simp [Value.ownBlock, this]
    · right
      intro q hq
      cases A' with
      | none => cases hq
      | some ad =>
        have : q = ad.block := by simpa [Value.ownBlock] using hq.symm
        subst this
        exact h4 ad rfl)
  rwa [levI_set] at this
/-- a number is taken out of a level -/
theorem OwW.del (h : OwW base w vI (.slice Al nl cl) vs vs ids (levI X)) {k g c n j : Nat} {l : List Nat} (hk : X[k]? = some l) (hv : vs[k]? = some (.slice (some ⟨g, 0, none⟩) l.length c)) (hn : n + 1 = l.length) (hj : j < l.length)
    (hi : w'.ownsRow base 3 1 (.slice (some ⟨g, 0, none⟩) n c) n (((castL l).map iv).eraseIdx j)) (hg : w.grownBy w' (some g)) :
    OwW base w' vI (.slice Al nl cl) vs (vs.set k (.slice (some ⟨g, 0, none⟩) n c)) ids (levI (X.set k (l.eraseIdx j))) := by
  have he : ((castL l).map iv).eraseIdx j = (castL (l.eraseIdx j)).map iv := by
    simp [castL, List.eraseIdx_eq_take_drop_succ, List.map_append, List.map_take, List.map_drop]
  rw [he] at hi
  have hlen : (castL (l.eraseIdx j)).length = n := by
    rw [castL_len, List.length_eraseIdx, if_pos hj]; omega
  have := h.level hv (g := g) rfl hg (u' := .slice (some ⟨g, 0, none⟩) n c) (l' := castL (l.eraseIdx j)) (by rw [hlen]; exact hi) (.inl rfl)
  rwa [levI_set] at this
/-- the row of a level's turned head is written -/
theorem OwW.storeL {gl k : Nat} {u : Value} (h : OwW base w vI (.slice (some ⟨gl, 0, none⟩) nl cl) vs us ids (levI X)) (hn : nl = X.length) (hu : us = vs.set k u) : OwW base (w.setCell ⟨gl, k, none⟩ u) vI (.slice (some ⟨gl, 0, none⟩) nl cl) us us ids (levI X) := by
  subst hn hu
  have h' : OwW base w vI (.slice (some ⟨gl, 0, none⟩) (levI X).length cl) vs (vs.set k u) ids (levI X) := by rw [levI_lenX]; exact h
  have := h'.store (k := k) (u := u)
  rwa [levI_lenX] at this
end

section
variable {base : Nat} {w w' : World} {vI vL : Value} {vs us : List Value} {ids : List Int} {ll : List (List Int)}
theorem own_map (A : Option Addr) (n c : Nat) : (Value.slice A n c).ownBlock = A.map (·.block) := by cases A <;> rfl
theorem own_or {A A' : Option Addr} {n c n' c' lo : Nat} (h : A'.map (·.block) = A.map (·.block) ∨ ∀ ad, A' = some ad → lo ≤ ad.block) : (Value.slice A' n' c').ownBlock = (Value.slice A n c).ownBlock ∨ ∀ q, (Value.slice A' n' c').ownBlock = some q → lo ≤ q := by
  rcases h with h | h
  · left
    rw [own_map, own_map]
    exact h
  · right
    intro q hq
    cases A' with
    | none => cases hq
    | some ad =>
      have : q = ad.block := by simpa [Value.ownBlock] using hq.symm
      subst this
      exact h ad rfl
/-- a member is put in -/
theorem OwW.insIds {Ai : Option Addr} {n ci m p : Nat} {id : Int} {e : Ending} (h : OwW base w (.slice Ai n ci) vL vs us ids ll) (hm : m = ids.length + 1)
    (hi : InsOf w base Ai m ((ids.map iv).take p ++ .int .i64 id :: (ids.map iv).drop p) e w') :
    ∃ A' c', e = .returned (.slice A' m c') ∧ OwW base w' (.slice A' m c') vL vs us (ids.take p ++ id :: ids.drop p) ll ∧ w.grownBy w' (Value.slice Ai n ci).ownBlock := by
  obtain ⟨A', c', h1, h2, h3, h4⟩ := hi
  have he : (ids.map iv).take p ++ .int .i64 id :: (ids.map iv).drop p = (ids.take p ++ id :: ids.drop p).map iv := by
    simp [List.map_append, List.map_take, List.map_drop, iv]
  have hlen : (ids.take p ++ id :: ids.drop p).length = m := by
    rw [List.length_append, List.length_cons, hm, ← Nat.add_assoc, ← List.length_append, List.take_append_drop]
  rw [he] at h2
  rw [← own_map Ai n ci] at h3
  exact ⟨A', c', h1, h.idsT h3 (by rw [hlen]; exact h2) (own_or h4), h3⟩
theorem own_two (w : World) (base : Nat) (hb : base ≤ w.heap.size) : (w.alloc (.cells #[.int .i64 2] 3)).ownsRow base 3 1 (.slice (some ⟨w.heap.size, 0, none⟩) 1 1) ([2] : List Int).length (([2] : List Int).map iv) := own_new w base 3 #[.int .i64 2] hb (by simp [maxLen])
/-- the first level -/
theorem OwW.first (h : OwW base w vI vL vs us ids []) (hb : base ≤ w.heap.size) : OwW base ((w.alloc (.cells #[.int .i64 2] 3)).alloc (.cells #[.slice (some ⟨w.heap.size, 0, none⟩) 1 1] 22)) vI (.slice (some ⟨w.heap.size + 1, 0, none⟩) 1 1)
    [.slice (some ⟨w.heap.size, 0, none⟩) 1 1] [.slice (some ⟨w.heap.size, 0, none⟩) 1 1] ids [[2]] := by
  have b1 := d_al w (.cells #[.int .i64 2] 3)
  have o1 := own_two w base hb
  have z1 : (w.alloc (.cells #[.int .i64 2] 3)).heap.size = w.heap.size + 1 := by simp
  have h1 := h.quiet b1
  generalize w.alloc (.cells #[.int .i64 2] 3) = w1 at *
  have b2 := d_al w1 (.cells #[.slice (some ⟨w.heap.size, 0, none⟩) 1 1] 22)
  have o2 := own_new w1 base 22 #[.slice (some ⟨w.heap.size, 0, none⟩) 1 1] (by omega) (by simp [maxLen])
  rw [z1] at o2
  refine ⟨own_below h1.i b2, o2, rfl, fun k u l hk hl => ?_, fun k u g hk hu e => ?_, fun j k u v g hj hk _ _ => ?_⟩
  · have hk0 : k = 0 := by have := (List.getElem?_eq_some_iff.1 hk).1; simpa using this
    subst hk0
    simp at hk hl
    subst hk hl
    exact own_below o1 b2
  · have hk0 : k = 0 := by have := (List.getElem?_eq_some_iff.1 hk).1; simpa using this
    subst hk0
    simp at hk
    subst hk
    have : g = w.heap.size := by simpa [Value.ownBlock] using hu.symm
    subst this
    have := (h.i.lt _ e).2
    omega
  · have hj0 : j = 0 := by have := (List.getElem?_eq_some_iff.1 hj).1; simpa using this
    have hk0 : k = 0 := by have := (List.getElem?_eq_some_iff.1 hk).1; simpa using this
    omega
end

end Go.Proofs.Ytmganbdbihjbmaa

/-
  CONTRACT of the program's put (tree): one member more, in rows of the call's own. Printed by gen_treeput.py.
-/
set_option linter.unusedVariables false
namespace Go.Proofs.Ytmganbdbihjbmaa
open Go.RowKit

theorem sh_ne : (25 : TypeId) ≠ 3 ∧ (25 : TypeId) ≠ 22 := by decide
theorem lv_nilT {many : Nat} {lv : List (List Nat)} (h : lvOK many lv) (hm : many ≤ 1) : lv = [] := by
  match lv, h with
  | [], _ => rfl
  | l :: ls, h => have := h.1; omega
theorem drop_set_self {α : Type} : ∀ {l : List α} {j : Nat} {x : α}, j < l.length → (l.set j x).drop j = x :: l.drop (j + 1)
  | y :: l, 0, x, _ => rfl
  | y :: l, j + 1, x, h => drop_set_self (l := l) (by simpa using h)
/-- what put leaves -/
def PutPost (base : Nat) (w : World) (ids : List Int) (lv : List (List Nat)) (e : Ending) (w' : World) : Prop :=
  Below base w w' ∧ ∃ Ai ni ci Al nl cl vs, e = .returned (.agg (shV Ai ni ci Al nl cl)) ∧ OwW base w' (.slice Ai ni ci) (.slice Al nl cl) vs vs ids (levI lv)

set_option maxRecDepth 100000 in
set_option maxHeartbeats 8000000 in
theorem PPut_any (base : Nat) (Ai : Option Addr) (ni ci : Nat) (Al : Option Addr) (nl cl : Nat) (vs : List Value) (ids : List Int) (lv : List (List Nat)) (id : Int) (w : World) (hb : base ≤ w.heap.size) (hn6 : ids.length ≤ 1000) (hnl : lv.length ≤ 20)
    (hp : ids.Pairwise (· < ·)) (hok : lvOK ids.length lv) (h : OwW base w (.slice Ai ni ci) (.slice Al nl cl) vs vs ids (levI lv)) :
    Calls Try.prog 45 #[.agg (shV Ai ni ci Al nl cl), .int .i64 id] w (PutPost base w (insS ids lv id).1 (insS ids lv id).2) := by
  obtain ⟨i0, hi0, hz0, hz1, hz2⟩ := info_parts intInfo
  obtain ⟨i1, hi1, hy0, hy1, hy2⟩ := info_parts listInfo
  have Hpost := Lib.hid (show ∀ Ai ni ci Al nl cl vs w', Below base w w' → OwW base w' (.slice Ai ni ci) (.slice Al nl cl) vs vs (insS ids lv id).1 (levI (insS ids lv id).2) → PutPost base w (insS ids lv id).1 (insS ids lv id).2 (.returned (.agg (shV Ai ni ci Al nl cl))) w' from fun _ _ _ _ _ _ _ _ h1 h2 => ⟨h1, _, _, _, _, _, _, _, rfl, h2⟩)
  generalize PutPost base w (insS ids lv id).1 (insS ids lv id).2 = PO at *
  have hM0 := MsB.of (((Ms.nil w).box 25 (shV Ai ni ci Al nl cl)).box 25 #[.slice none 0 0, .slice none 0 0]) hb
  simp only [World.size_alloc] at hM0
  have h0 := (h.quiet (d_al w (.cells (shV Ai ni ci Al nl cl) 25))).quiet (d_al _ (.cells #[.slice none 0 0, .slice none 0 0] 25))
  have hs0 : ((w.alloc (.cells (shV Ai ni ci Al nl cl) 25)).alloc (.cells #[.slice none 0 0, .slice none 0 0] 25)).heap.size = w.heap.size + 1 + 1 := by simp
  obtain ⟨Ac, cc, ec, hcc, hmm⟩ := own_formT h.i
  injection ec with e1 e2 e3
  subst e1 e2 e3
  clear h
  go_enter Try.func45, Try.ntmps45
  go_upto_region 1 with fail
  try simp only [Act.put]
  obtain ⟨gB, hgB⟩ : ∃ g, g = w.heap.size := ⟨_, rfl⟩
  rw [← hgB] at hM0 hs0 hb ⊢
  refine wp_gen (fun wx => MsB base w wx [(gB, 25, shV Ai ids.length ci Al nl cl), (gB + 1, 25, #[.slice none 0 0, .slice none 0 0])] ∧ OwW base wx (.slice Ai ids.length ci) (.slice Al nl cl) vs vs ids (levI lv) ∧ gB + 1 + 1 = wx.heap.size) ⟨⟨hM0.old, fun p hp => hM0.rows p (by simp only [List.mem_cons, List.not_mem_nil, or_false] at hp ⊢; rcases hp with rfl | rfl <;> simp)⟩, h0, hs0.symm⟩ ?_
  clear hM0 h0 hs0 hgB
  rintro w1 ⟨hM1, h1, hs1⟩
  have kb0 := (hM1.get 0 rfl).cell (i := 0) (v := .slice Ai ids.length ci) rfl
  have hsr := Search_any Ai ids.length ci ids id w1 hcc hmm (by omega) hp (Rd.of_own h1.i)
  have Hbl := Lib.hid (belT_le ids id)
  have Hi1 := Lib.hid (show (insS ids lv id).1 = ids.take (belT ids id) ++ id :: ids.drop (belT ids id) by
    rw [insS]
    split
    · rename_i h0; subst h0; simp [belT]
    · rfl)
  have Hi2 := Lib.hid (show ids ≠ [] → (insS ids lv id).2 = insL lv (belT ids id - 1) from fun hne => by rw [insS, if_neg hne])
  have Hi0 := Lib.hid (show ids = [] → (insS ids lv id).2 = [] from fun hne => by rw [insS, if_pos hne])
  generalize belT ids id = p at *
  generalize isT ids id = ti at *
  generalize insS ids lv id = R at *
  obtain ⟨m, hm⟩ : ∃ m, m = ids.length + 1 := ⟨_, rfl⟩
  have Hm := Lib.hid hm
  have hm2 : m ≤ 1001 := by omega
  obtain ⟨n, hn⟩ : ∃ n, n = ids.length := ⟨_, rfl⟩
  have Hn := Lib.hid hn
  rw [← hn] at hsr kb0 hM1 h1 hcc
  have hi1 := h1.i
  rw [← hn] at hi1
  rw [← hn] at Hbl hm
  clear hn
  go_wp2_with fail
  refine hsr.mono ?_
  rintro e w1 ⟨rfl, rfl⟩
  go_upto_region 2 with fail
  try simp only [Act.put]
  clear hsr
  have hal := d_al w1 (.cells #[.int .i64 id] 3)
  have hMa := hM1.call hal (by omega)
  have ha := h1.quiet hal
  have hia := own_below hi1 hal
  have hrv : RowC (w1.alloc (.cells #[.int .i64 id] 3)) w1.heap.size 3 #[.int .i64 id] := RowC.new _ _ _
  have hza : (w1.alloc (.cells #[.int .i64 id] 3)).heap.size = w1.heap.size + 1 := by simp
  have hins := InsI_any base Ai n ci p w1.heap.size (.int .i64 id) (ids.map iv) _ (by have := Hn.out; omega) Hbl.out rfl (one_iv _) (by omega) hia hrv (fun ad e => by
    subst e
    have := own_ltT hi1 ad.block rfl
    omega)
  rw [← hm] at hins
  have Hmn := Lib.hid hm
  clear hm
  go_wp2_with fail
  refine hins.mono ?_
  rintro e w2 hpost2
  obtain ⟨A2, c2, rfl, h2, hgr2⟩ := ha.insIds Hm.out hpost2
  have hM2 := hMa.turn hgr2 (by omega) (fun g hg => by
    obtain ⟨cs, hr⟩ := own_tyT hia hg
    exact ⟨own_blockT hia g hg, _, cs, hr, fun q hq => by simp at hq; rcases hq with rfl | rfl <;> exact sh_ne.1.symm⟩)
  clear hpost2 hins hMa ha hia hrv hM1 h1 hi1 kb0 hgr2
  have kc := (hM2.get 0 rfl).cell (i := 0) (v := .slice Ai n ci) rfl
  have kf := (hM2.get 0 rfl).frozen 0
  go_upto_region 3 with fail
  try simp only [Act.put]
  have hM3 := hM2.set (by omega) (fun q hq => by simp at hq; subst hq; simp) 0 (.slice A2 m c2)
  rw [show (shV Ai n ci Al nl cl).setIfInBounds 0 (.slice A2 m c2) = #[.slice A2 m c2, .slice Al nl cl] from rfl] at hM3
  have h3 := h2.far (grown_setCell w2 gB 0 (.slice A2 m c2)) (hM2.get 0 rfl) sh_ne.1 sh_ne.2
  refine wp_gen (fun wx => MsB base w wx [(gB, 25, #[.slice A2 m c2, .slice Al nl cl]), (gB + 1, 25, #[.slice none 0 0, .slice none 0 0])] ∧ OwW base wx (.slice A2 m c2) (.slice Al nl cl) vs vs R.1 (levI lv) ∧ gB + 1 + 1 ≤ wx.heap.size) ⟨hM3, by rw [Hi1.out]; exact h3, (hM3.get 1 rfl).lt⟩ ?_
  clear hM3 h3 hM2 h2 kc kf hs1 hza
  rintro w3 ⟨hM3, h3, hs3⟩
  have k0 := (hM3.get 0 rfl).cell (i := 0) (v := .slice A2 m c2) rfl
  by_cases hm1 : m < 2
  · have hz : ids = [] := List.eq_nil_of_length_eq_zero (by have := Hm.out; omega)
    have hlv0 := lv_nilT hok (by have := Hm.out; omega)
    have hlt : (m : Int) < 2 := by omega
    have Hfin := Lib.hid (show R.2 = lv by rw [Hi0.out hz, hlv0])
    clear hz hlv0
    go_wp2_with (first
      | ((with_reducible show wpList _ _ _ (⟨some 27, _, _, _, _, _⟩ :: _) _ _); refine wpList_loadC (by kernel_rfl) 25 (.tmp 2) rfl gB rfl 25 #[.slice A2 m c2, .slice Al nl cl] _ (hM3.get 0 rfl) Try.underlying25 rfl shapeInfo2 ?_)
      | ((with_reducible show wpList _ _ _ (⟨none, Op.store 25 _ _, _, _, _, _⟩ :: _) _ _); refine wpList_store_row rfl 25 (.tmp 4) (.tmp 27) rfl (gB + 1) #[.slice A2 m c2, .slice Al nl cl] rfl rfl 25 _ (hM3.get 1 rfl) shapeInfo2 rfl (by simp [Value.oneCell']) ?_))
    try simp only [Act.put]
    have hR9 := (hM3.get 1 rfl).row #[.slice A2 m c2, .slice Al nl cl]
    have hw9 := h3.far (grown_setRow _ (gB + 1) #[.slice A2 m c2, .slice Al nl cl]) (hM3.get 1 rfl) sh_ne.1 sh_ne.2
    have hb9 := below_setRow hM3.old (show base ≤ (gB + 1) by omega) #[.slice A2 m c2, .slice Al nl cl]
    rw [← Hfin.out] at hw9
    refine bodyPost_ret (results_cell_one rfl _ _ (gB + 1) _ #[.slice A2 m c2, .slice Al nl cl] _ rfl hR9 Try.underlying25 rfl shapeInfo2) rfl (Hpost.out _ _ _ _ _ _ _ _ hb9 hw9)

  have hge : ¬ (m : Int) < 2 := by omega
  have hne : ids ≠ [] := fun e => by have := Hm.out; rw [e] at this; simp at this; omega
  have Hfin := Lib.hid (Hi2.out hne)
  clear hne
  by_cases hm2' : m = 2
  · have hlv0 := lv_nilT hok (by have := Hm.out; omega)
    have Hf2 := Lib.hid (show R.2 = [[2]] by rw [Hfin.out, hlv0]; rfl)
    have heq : ((m : Int) == 2) = true := by rw [hm2']; rfl
    rw [hlv0] at h3
    have h4 := OwW.first (h3 : OwW base w3 (.slice A2 m c2) (.slice Al nl cl) vs vs R.1 []) (by omega)
    clear hm2' hlv0
    have b1 := d_al w3 (.cells #[.int .i64 2] 3)
    have b2 := d_al (w3.alloc (.cells #[.int .i64 2] 3)) (.cells #[.slice (some ⟨w3.heap.size, 0, none⟩) 1 1] 22)
    have hM4 := (hM3.call b1 (by omega)).call b2 (by simp; omega)
    have kc := (hM4.get 0 rfl).cell (i := 1) (v := .slice Al nl cl) rfl
    have kf := (hM4.get 0 rfl).frozen 1
    go_upto_region 7 with fail
    try simp only [Act.put]
    have hM5 := hM4.set (by omega) (fun q hq => by simp at hq; subst hq; simp) 1 (.slice (some ⟨w3.heap.size + 1, 0, none⟩) 1 1)
    rw [show (#[.slice A2 m c2, .slice Al nl cl] : Array Value).setIfInBounds 1 (.slice (some ⟨w3.heap.size + 1, 0, none⟩) 1 1) = #[.slice A2 m c2, .slice (some ⟨w3.heap.size + 1, 0, none⟩) 1 1] from rfl] at hM5
    have h5 := h4.far (grown_setCell _ gB 1 (.slice (some ⟨w3.heap.size + 1, 0, none⟩) 1 1)) (hM4.get 0 rfl) sh_ne.1 sh_ne.2
    obtain ⟨q2, hq2⟩ : ∃ q, q = w3.heap.size + 1 := ⟨_, rfl⟩
    rw [← hq2] at hM5 h5 ⊢
    refine wp_gen (fun wx => MsB base w wx [(gB, 25, #[.slice A2 m c2, .slice (some ⟨q2, 0, none⟩) 1 1]), (gB + 1, 25, #[.slice none 0 0, .slice none 0 0])] ∧ OwW base wx (.slice A2 m c2) (.slice (some ⟨q2, 0, none⟩) 1 1) _ _ R.1 [[2]]) ⟨hM5, h5⟩ ?_
    clear hM5 h5 hM4 h4 kc kf b1 b2 hM3 h3 hq2 k0
    rintro w5 ⟨hM5, h5⟩
    go_wp2_with (first
      | ((with_reducible show wpList _ _ _ (⟨some 35, _, _, _, _, _⟩ :: _) _ _); refine wpList_loadC (by kernel_rfl) 25 (.tmp 2) rfl gB rfl 25 #[.slice A2 m c2, .slice (some ⟨q2, 0, none⟩) 1 1] _ (hM5.get 0 rfl) Try.underlying25 rfl shapeInfo2 ?_)
      | ((with_reducible show wpList _ _ _ (⟨none, Op.store 25 _ _, _, _, _, _⟩ :: _) _ _); refine wpList_store_row rfl 25 (.tmp 4) (.tmp 35) rfl (gB + 1) #[.slice A2 m c2, .slice (some ⟨q2, 0, none⟩) 1 1] rfl rfl 25 _ (hM5.get 1 rfl) shapeInfo2 rfl (by simp [Value.oneCell']) ?_))
    try simp only [Act.put]
    have hR9 := (hM5.get 1 rfl).row #[.slice A2 m c2, .slice (some ⟨q2, 0, none⟩) 1 1]
    have hw9 := h5.far (grown_setRow _ (gB + 1) #[.slice A2 m c2, .slice (some ⟨q2, 0, none⟩) 1 1]) (hM5.get 1 rfl) sh_ne.1 sh_ne.2
    have hb9 := below_setRow hM5.old (show base ≤ (gB + 1) by omega) #[.slice A2 m c2, .slice (some ⟨q2, 0, none⟩) 1 1]
    rw [show ([[2]] : List (List Int)) = levI R.2 by rw [Hf2.out]; rfl] at hw9
    refine bodyPost_ret (results_cell_one rfl _ _ (gB + 1) _ #[.slice A2 m c2, .slice (some ⟨q2, 0, none⟩) 1 1] _ rfl hR9 Try.underlying25 rfl shapeInfo2) rfl (Hpost.out _ _ _ _ _ _ _ _ hb9 hw9)

  have hne2 : ¬ (m : Int) = 2 := by omega
  have hge3 : 3 ≤ m := by omega
  have hpw : IntKind.i64.wrap ((p : Int) - 1) = (p : Int) - 1 := by have := Hbl.out; have := Hn.out; rw [IntKind.wrap_i64]; omega
  have hmx : max ((p : Int) - 1) 0 = ((p - 1 : Nat) : Int) := by omega
  have Hnl := Lib.hid (show nl = lv.length by
    have := h3.l
    rw [levI_lenX] at this
    obtain ⟨_, _, e, _⟩ := own_formT this
    injection e with _ e2)
  have hnl20 : nl ≤ 20 := by rw [Hnl.out]; exact hnl
  have Hb0 := Lib.hid (show p - 1 < ids.length ∧ ids.length ≤ 1000 by have := Hbl.out; have := Hn.out; have := Hm.out; omega)
  have k1 := (hM3.get 0 rfl).cell (i := 1) (v := .slice Al nl cl) rfl
  clear hne2 hm2'
  go_wp2_with fail
  go_loopw [5, 42] (fun a i wr => ∃ (k b many : Nat) (done : List (List Nat)) (vs' : List Value), k ≤ nl ∧ i = .int .i64 (k : Int) ∧ a = .int .i64 (b : Int) ∧ b < many ∧ many ≤ 1000 ∧ lvOK many (lv.drop k) ∧ R.2 = done ++ insL (lv.drop k) b ∧ done.length = k ∧
    OwW base wr (.slice A2 m c2) (.slice Al nl cl) vs' vs' R.1 (levI (done ++ lv.drop k)) ∧ MsB base w wr [(gB, 25, #[.slice A2 m c2, .slice Al nl cl]), (gB + 1, 25, #[.slice none 0 0, .slice none 0 0])] ∧ gB + 1 + 1 ≤ wr.heap.size) (fun _ i _ => nl - (intOf i).toNat)
  case atStart => exact ⟨0, p - 1, ids.length, [], vs, by omega, rfl, rfl, Hb0.out.1, Hb0.out.2, hok, Hfin.out, rfl, h3, hM3, hs3⟩
  case round =>
    clear hM3 h3 k0 k1 hmx hpw hs3
    obtain ⟨k, b, many, done, vs', hk, rfl, rfl, hbm, hm1000, hlo, hR, hdl, h4, hM4, hs4⟩ := hrel
    have HR := Lib.hid hR
    have Hdl := Lib.hid hdl
    have Hlo := Lib.hid hlo
    clear hR hdl hlo
    by_cases hlt : k < nl
    · have hkl : k < lv.length := by rw [← Hnl.out]; exact hlt
      obtain ⟨l, hl⟩ : ∃ l, lv[k]? = some l := ⟨_, List.getElem?_eq_getElem hkl⟩
      have hd : lv.drop k = l :: lv.drop (k + 1) := by rw [List.drop_eq_getElem_cons hkl, (List.getElem?_eq_some_iff.1 hl).2]
      have hX : (done ++ lv.drop k)[k]? = some l := by rw [List.getElem?_append_right (by have := Hdl.out; omega), Hdl.out, Nat.sub_self, hd]; rfl
      have hlo2 := Hlo.out
      rw [hd] at hlo2
      obtain ⟨o1, o2, o3, o4⟩ := hlo2
      obtain ⟨g1, g2, g3⟩ := grpT_spec l b (by omega)
      have hlm := (two3_len o2).1
      obtain ⟨gl, g, c, rfl, hnl', hcl1, hcl2, hc, hm, hv, hcell, hown, hgg⟩ := h4.lvl hX (by omega)
      have HX := Lib.hid hX
      have Hv := Lib.hid hv
      have HR2 := Lib.hid (show R.2 = done ++ (if l[grpT l b]? = some 2 then l.set (grpT l b) 3 :: lv.drop (k + 1) else splitT l (grpT l b) :: insL (lv.drop (k + 1)) (grpT l b)) by rw [HR.out, hd, insL_cons])
      have Hset := Lib.hid (fun (y : List Nat) => show (done ++ lv.drop k).set k y = done ++ y :: lv.drop (k + 1) by
        rw [List.set_append_right _ _ (by have := Hdl.out; omega), Hdl.out, Nat.sub_self, hd, List.set_cons_zero])
      have hgo := PGroupOf_any (some ⟨g, 0, none⟩) l.length c (castL l) b wr hc hm (by omega) (by omega) (in23_mk o2) (Rd.of_own hown)
      rw [natL_cast] at hgo
      have h23 := two3_get o2 g1
      have Ho4 := Lib.hid o4
      have hlen1 : l.length ≤ 1000 := by omega
      clear hX hv hl hd g2 g3 o3 o4 hlm hnl' o2
      generalize grpT l b = j at *
      obtain ⟨hc1, hf1⟩ := lvl_cell hown g1
      have hjl : (j : Int) < (l.length : Int) := by omega
      have hget : l[j]? = some l[j] := List.getElem?_eq_getElem g1
      have kl := (hM4.get 0 rfl).cell (i := 1) (v := .slice (some ⟨gl, 0, none⟩) nl cl) rfl
      obtain ⟨crow, hgrow, _⟩ := own_rowT hown
      have hgb : base ≤ g := own_blockT hown g rfl
      generalize hxx : l[j] = x at *
      clear hxx
      rcases h23 with rfl | rfl
      · have Hf := Lib.hid (show R.2 = done ++ (l.set j 3 :: lv.drop (k + 1)) by rw [HR2.out, if_pos hget])
        clear hget
        go_wp2_with fail
        refine hgo.mono ?_
        rintro e wr ⟨rfl, rfl⟩
        go_upto_region 14 with fail
        try simp only [Act.put]
        have h5 : OwW base (wr.setCell ⟨g, j, none⟩ (.int .i64 3)) (.slice A2 m c2) (.slice (some ⟨gl, 0, none⟩) nl cl) vs' vs' R.1 (levI ((done ++ lv.drop k).set k (l.set j 3))) := h4.num HX.out Hv.out j 3
        rw [Hset.out, ← Hf.out] at h5
        have hM5 := hM4.turn (grown_setCell wr g j (.int .i64 3)) (by omega) (fun q hq => by injection hq with hq; subst hq; exact ⟨hgb, _, _, hgrow, fun q hq => by simp at hq; rcases hq with rfl | rfl <;> exact sh_ne.1.symm⟩)
        have hcc5 : (wr.setCell ⟨g, j, none⟩ (.int .i64 3)).cell? ⟨g, j, none⟩ = some (.int .i64 3) := World.cell?_setCell_same _ _ _ hc1
        refine wp_gen (fun wx => MsB base w wx [(gB, 25, #[.slice A2 m c2, .slice (some ⟨gl, 0, none⟩) nl cl]), (gB + 1, 25, #[.slice none 0 0, .slice none 0 0])] ∧ OwW base wx (.slice A2 m c2) (.slice (some ⟨gl, 0, none⟩) nl cl) vs' vs' R.1 (levI R.2) ∧ wx.cell? ⟨g, j, none⟩ = some (.int .i64 3)) ⟨hM5, h5, hcc5⟩ ?_
        clear hM5 h5 hcc5 hM4 h4 hcell hown hc1 hf1 kl hgo hgrow
        rintro w5 ⟨hM5, h5, hcc5⟩
        go_wp2_with (first
          | ((with_reducible show wpList _ _ _ (⟨some 61, _, _, _, _, _⟩ :: _) _ _); refine wpList_loadC (by kernel_rfl) 25 (.tmp 2) rfl gB rfl 25 #[.slice A2 m c2, .slice (some ⟨gl, 0, none⟩) nl cl] _ (hM5.get 0 rfl) Try.underlying25 rfl shapeInfo2 ?_)
          | ((with_reducible show wpList _ _ _ (⟨none, Op.store 25 _ _, _, _, _, _⟩ :: _) _ _); refine wpList_store_row rfl 25 (.tmp 4) (.tmp 61) rfl (gB + 1) #[.slice A2 m c2, .slice (some ⟨gl, 0, none⟩) nl cl] rfl rfl 25 _ (hM5.get 1 rfl) shapeInfo2 rfl (by simp [Value.oneCell']) ?_))
        try simp only [Act.put]
        have hR9 := (hM5.get 1 rfl).row #[.slice A2 m c2, .slice (some ⟨gl, 0, none⟩) nl cl]
        have hw9 := h5.far (grown_setRow _ (gB + 1) #[.slice A2 m c2, .slice (some ⟨gl, 0, none⟩) nl cl]) (hM5.get 1 rfl) sh_ne.1 sh_ne.2
        have hb9 := below_setRow hM5.old (show base ≤ (gB + 1) by omega) #[.slice A2 m c2, .slice (some ⟨gl, 0, none⟩) nl cl]
        refine bodyPost_ret (results_cell_one rfl _ _ (gB + 1) _ #[.slice A2 m c2, .slice (some ⟨gl, 0, none⟩) nl cl] _ rfl hR9 Try.underlying25 rfl shapeInfo2) rfl (Hpost.out _ _ _ _ _ _ _ _ hb9 hw9)

      have Hf := Lib.hid (show R.2 = done ++ (splitT l j :: insL (lv.drop (k + 1)) j) by rw [HR2.out, if_neg (by rw [hget]; simp)])
      clear hget
      go_wp2_with fail
      refine hgo.mono ?_
      rintro e wr ⟨rfl, rfl⟩
      go_upto_region 14 with fail
      try simp only [Act.put]
      have h5 : OwW base (wr.setCell ⟨g, j, none⟩ (.int .i64 4)) (.slice A2 m c2) (.slice (some ⟨gl, 0, none⟩) nl cl) vs' vs' R.1 (levI ((done ++ lv.drop k).set k (l.set j 4))) := h4.num HX.out Hv.out j 4
      have hM5 := hM4.turn (grown_setCell wr g j (.int .i64 4)) (by omega) (fun q hq => by injection hq with hq; subst hq; exact ⟨hgb, _, _, hgrow, fun q hq => by simp at hq; rcases hq with rfl | rfl <;> exact sh_ne.1.symm⟩)
      have hcc5 : (wr.setCell ⟨g, j, none⟩ (.int .i64 4)).cell? ⟨g, j, none⟩ = some (.int .i64 4) := World.cell?_setCell_same _ _ _ hc1
      have hgrow5 := hgrow.set_ j (.int .i64 4)
      have hs5 : gB + 1 + 1 ≤ (wr.setCell ⟨g, j, none⟩ (.int .i64 4)).heap.size := by simp; exact hs4
      refine wp_gen (fun wx => MsB base w wx [(gB, 25, #[.slice A2 m c2, .slice (some ⟨gl, 0, none⟩) nl cl]), (gB + 1, 25, #[.slice none 0 0, .slice none 0 0])] ∧ OwW base wx (.slice A2 m c2) (.slice (some ⟨gl, 0, none⟩) nl cl) vs' vs' R.1 (levI ((done ++ lv.drop k).set k (l.set j 4))) ∧ wx.cell? ⟨g, j, none⟩ = some (.int .i64 4) ∧ RowC wx g 3 (crow.setIfInBounds j (.int .i64 4)) ∧ gB + 1 + 1 ≤ wx.heap.size) ⟨hM5, h5, hcc5, hgrow5, hs5⟩ ?_
      clear hM5 h5 hcc5 hM4 h4 hcell hown hc1 hf1 kl hgo hgrow hgrow5 hs5 hs4
      rintro w5 ⟨hM5, h5, hcc5, hgrow5, hs5⟩
      have hf5 := hgrow5.frozen j
      go_upto_region 17 with fail
      try simp only [Act.put]
      have hX5 : ((done ++ lv.drop k).set k (l.set j 4))[k]? = some (l.set j 4) := List.getElem?_set_self (List.getElem?_eq_some_iff.1 HX.out).1
      have hv5 : vs'[k]? = some (.slice (some ⟨g, 0, none⟩) (l.set j 4).length c) := by rw [List.length_set]; exact Hv.out
      have h6 : OwW base (w5.setCell ⟨g, j, none⟩ (.int .i64 2)) (.slice A2 m c2) (.slice (some ⟨gl, 0, none⟩) nl cl) vs' vs' R.1 (levI (((done ++ lv.drop k).set k (l.set j 4)).set k ((l.set j 4).set j 2))) := h5.num hX5 hv5 j 2
      rw [List.set_set, List.set_set] at h6
      have hM6 := hM5.turn (grown_setCell w5 g j (.int .i64 2)) (by omega) (fun q hq => by injection hq with hq; subst hq; exact ⟨hgb, _, _, hgrow5, fun q hq => by simp at hq; rcases hq with rfl | rfl <;> exact sh_ne.1.symm⟩)
      have hs6 : gB + 1 + 1 ≤ (w5.setCell ⟨g, j, none⟩ (.int .i64 2)).heap.size := by simp; exact hs5
      refine wp_gen (fun wx => MsB base w wx [(gB, 25, #[.slice A2 m c2, .slice (some ⟨gl, 0, none⟩) nl cl]), (gB + 1, 25, #[.slice none 0 0, .slice none 0 0])] ∧ OwW base wx (.slice A2 m c2) (.slice (some ⟨gl, 0, none⟩) nl cl) vs' vs' R.1 (levI ((done ++ lv.drop k).set k (l.set j 2))) ∧ gB + 1 + 1 ≤ wx.heap.size) ⟨hM6, h6, hs6⟩ ?_
      clear hM6 h6 hs6 hM5 h5 hcc5 hf5 hgrow5 hs5 hX5 hv5
      rintro w6 ⟨hM6, h6, hs6⟩
      have hkeep : ∀ wx : World, Below w6.heap.size w6 wx → wx.cell? ⟨gB, 1, none⟩ = some (.slice (some ⟨gl, 0, none⟩) nl cl) := fun wx hb => ((hM6.get 0 rfl).call hb).cell rfl
      refine beginT (fun wx => wx.cell? ⟨gB, 1, none⟩ = some (.slice (some ⟨gl, 0, none⟩) nl cl)) 8 (by kernel_rfl) ?_
      have hS := hkeep _ (c_drew (c_refl _))
      refine takeD 0 (some 65) (.pointer (some ⟨gB, 1, none⟩)) rfl rfl (by kernel_rfl) (by kernel_rfl) (by kernel_rfl) (by kernel_rfl) (fun _ _ _ h => h) (Or.inl ⟨by kernel_rfl, fun wx hSw => by have h := hSw; go_simp⟩) hS ?_
      simp only [Act.put, List.setIfInBounds_toArray, List.set_cons_zero, List.set_cons_succ]
      refine takeD 1 (some 66) (.slice (some ⟨gl, 0, none⟩) nl cl) rfl rfl (by kernel_rfl) (by kernel_rfl) (by kernel_rfl) (by kernel_rfl) (fun _ _ _ h => h) (Or.inl ⟨by kernel_rfl, fun wx hSw => by have h := hSw; go_simp⟩) hS ?_
      simp only [Act.put, List.setIfInBounds_toArray, List.set_cons_zero, List.set_cons_succ]
      refine takeD 2 (some 67) (.int .i64 (k : Int)) rfl rfl (by kernel_rfl) (by kernel_rfl) (by kernel_rfl) (by kernel_rfl) (fun _ _ _ h => h) (Or.inl ⟨by kernel_rfl, fun wx hSw => by have h := hSw; go_simp⟩) hS ?_
      simp only [Act.put, List.setIfInBounds_toArray, List.set_cons_zero, List.set_cons_succ]
      refine takeD 3 (some 68) (.slice (some ⟨g, 0, none⟩) l.length c) rfl rfl (by kernel_rfl) (by kernel_rfl) (by kernel_rfl) (by kernel_rfl) (fun _ _ _ h => h) (Or.inl ⟨by kernel_rfl, fun wx hSw => by have h := hSw; go_simp⟩) hS ?_
      simp only [Act.put, List.setIfInBounds_toArray, List.set_cons_zero, List.set_cons_succ]
      refine takeD 4 (some 69) (.int .i64 (j : Int)) rfl rfl (by kernel_rfl) (by kernel_rfl) (by kernel_rfl) (by kernel_rfl) (fun _ _ _ h => h) (Or.inl ⟨by kernel_rfl, fun wx hSw => by have h := hSw; go_simp⟩) hS ?_
      simp only [Act.put, List.setIfInBounds_toArray, List.set_cons_zero, List.set_cons_succ]
      have hx0 : Below w6.heap.size w6 w6.drew := c_drew (c_refl _)
      have h60 := h6.quiet hx0
      have hM60 := hM6.call hx0 (by omega)
      have hs60 : gB + 1 + 1 ≤ w6.drew.heap.size := hs6
      generalize w6.drew = x0 at *
      have hal := d_al x0 (.cells #[.int .i64 2] 3)
      have hrv : RowC (x0.alloc (.cells #[.int .i64 2] 3)) x0.heap.size 3 #[.int .i64 2] := RowC.new _ _ _
      have hz1' : (x0.alloc (.cells #[.int .i64 2] 3)).heap.size = x0.heap.size + 1 := by simp
      have hx1 := c_call hx0 hal
      have h61 := h60.quiet hal
      have hM61 := hM60.call hal (by omega)
      have hX6 : ((done ++ lv.drop k).set k (l.set j 2))[k]? = some (l.set j 2) := List.getElem?_set_self (List.getElem?_eq_some_iff.1 HX.out).1
      have hv6 : vs'[k]? = some (.slice (some ⟨g, 0, none⟩) (l.set j 2).length c) := by rw [List.length_set]; exact Hv.out
      have hgvb : x0.heap.size ≠ g := by
        have h0 := h60.r k _ _ hv6 (levI_get hX6)
        have := own_ltT h0 g rfl
        omega
      refine oneT 5 (by kernel_rfl) rfl (fun K hK => ?_)
      go_simp
      refine hK.out _ _ (fun _ => hkeep _ hx1) ?_
      clear hK K
      generalize x0.alloc (.cells #[.int .i64 2] 3) = x1 at *
      generalize x0.heap.size = vb at *
      have hr6 := h61.r k _ _ hv6 (levI_get hX6)
      rw [castL_len, List.length_set] at hr6
      have hins := InsI_any base (some ⟨g, 0, none⟩) l.length c j vb (.int .i64 2) ((castL (l.set j 2)).map iv) x1 (by omega) (Nat.le_of_lt g1) rfl (one_iv _) (by omega) hr6 hrv (fun ad e => by injection e with e; subst e; exact hgvb)
      refine oneT 6 (by kernel_rfl) rfl (fun K hK => ?_)
      go_simp
      refine hins.mono ?_
      rintro e x2 hpost
      obtain ⟨A7, c7, rfl, h7, hgr7⟩ := h61.ins hX6 hv6 (by rw [List.length_set]) hpost
      have hM7 := hM61.turn hgr7 (by omega) (fun q hq => by
        injection hq with hq
        subst hq
        obtain ⟨cs, hr⟩ := own_tyT hr6 (g := g) rfl
        exact ⟨hgb, _, cs, hr, fun q hq => by simp at hq; rcases hq with rfl | rfl <;> exact sh_ne.1.symm⟩)
      have kx : x2.cell? ⟨gB, 1, none⟩ = some (.slice (some ⟨gl, 0, none⟩) nl cl) := (hM7.get 0 rfl).cell rfl
      refine hK.out _ _ (fun _ => kx) ?_
      clear hK K
      try simp only [Act.put, List.setIfInBounds_toArray, List.set_cons_zero, List.set_cons_succ]
      have hlX : nl = (((done ++ lv.drop k).set k (l.set j 2)).set k ((l.set j 2).take j ++ 2 :: (l.set j 2).drop j)).length := by
        rw [List.length_set, List.length_set, List.length_append, List.length_drop, Hdl.out, Hnl.out]; have := Hnl.out; omega
      have hl7 := h7.l
      rw [levI_lenX, ← hlX] at hl7
      have hkv : k < vs'.length := (List.getElem?_eq_some_iff.1 Hv.out).1
      have kl : x2.cell? ⟨gl, k, none⟩ = vs'[k]? := hl7.cellAt k (by omega)
      rw [Hv.out] at kl
      have fl : x2.frozen? ⟨gl, k, none⟩ = false := hl7.frozenAt k
      have h8 := h7.storeL hlX rfl
      have hgb2 : base ≤ gl := own_blockT hl7 gl rfl
      have hM8 := hM7.turn (grown_setCell x2 gl k (.slice A7 (l.length + 1) c7)) (by have := hM7.old.size; have := hgr7.size; omega) (fun q hq => by
        injection hq with hq
        subst hq
        obtain ⟨cs, hr⟩ := own_tyT hl7 (g := gl) rfl
        exact ⟨hgb2, _, cs, hr, fun q hq => by simp at hq; rcases hq with rfl | rfl <;> exact sh_ne.2.symm⟩)
      have hs8 : gB + 1 + 1 ≤ (x2.setCell ⟨gl, k, none⟩ (.slice A7 (l.length + 1) c7)).heap.size := by have := hgr7.size; simp; omega
      have hsp : (l.set j 2).take j ++ 2 :: (l.set j 2).drop j = splitT l j := by
        rw [splitT, List.take_set_of_le (Nat.le_refl _), drop_set_self g1]
      rw [hsp, List.set_set, Hset.out, show done ++ splitT l j :: lv.drop (k + 1) = (done ++ [splitT l j]) ++ lv.drop (k + 1) by simp] at h8
      have hlti : (k : Int) < (nl : Int) := by omega
      have hnc : l.length + 1 ≤ c7 + (l.length + 1) := by omega
      clear hgr7 hpost hins h61 hM61 h60 hM60 hr6 hrv hx1 hx0 hal hkeep h7 hM7 hl7 hsp hlX hS h6 hM6
      refine takeD 7 (some 72) (.pointer (some ⟨gl, k, none⟩)) rfl rfl (by kernel_rfl) (by kernel_rfl) (by kernel_rfl) (by kernel_rfl) (fun _ _ _ h => h) (Or.inl ⟨by kernel_rfl, fun wx hSw => by go_simp⟩) kx ?_
      simp only [Act.put, List.setIfInBounds_toArray, List.set_cons_zero, List.set_cons_succ]
      refine oneT 8 (by kernel_rfl) rfl (fun K hK => ?_)
      go_simp
      refine hK.out _ _ (fun h => absurd rfl h) ?_
      clear hK K
      refine doneT (by kernel_rfl) ?_ _
      go_wp2_with fail
      go_roundw
      case rel => exact ⟨k + 1, j, l.length, done ++ [splitT l j], _, by omega, by go_num, rfl, g1, hlen1, Ho4.out, by rw [Hf.out]; simp, by simp [Hdl.out], h8, hM8, hs8⟩
      case measure => simp [intOf]; omega
    · obtain rfl : k = nl := by omega
      have hdn : lv.drop k = [] := List.drop_of_length_le (by rw [← Hnl.out]; exact Nat.le_refl _)
      rw [hdn, List.append_nil] at h4
      have Hf3 := Lib.hid (show R.2 = done ++ [[2]] by rw [HR.out, hdn]; rfl)
      clear hdn
      have k1 := (hM4.get 0 rfl).cell (i := 1) (v := .slice Al k cl) rfl
      have hll := h4.l
      rw [levI_lenX, Hdl.out] at hll
      have b1 := d_al wr (.cells #[.int .i64 2] 3)
      have b2 := d_al (wr.alloc (.cells #[.int .i64 2] 3)) (.cells #[.slice (some ⟨wr.heap.size, 0, none⟩) 1 1] 22)
      have z1 : (wr.alloc (.cells #[.int .i64 2] 3)).heap.size = wr.heap.size + 1 := by simp
      have z2 : ((wr.alloc (.cells #[.int .i64 2] 3)).alloc (.cells #[.slice (some ⟨wr.heap.size, 0, none⟩) 1 1] 22)).heap.size = wr.heap.size + 1 + 1 := by simp
      have hMa := (hM4.call b1 (by omega)).call b2 (by omega)
      have hoa := own_below (own_below hll b1) b2
      have hua := own_below (own_two wr base (by omega)) b2
      have hone : ∀ u ∈ [Value.slice (some ⟨wr.heap.size, 0, none⟩) 1 1], u.oneCell' = true := by intro u hu; simp at hu; subst hu; rfl
      go_upto_region 20 with (at_builtin; refine wpList_append_rd _ rfl (.tmp 75) (.tmp 77) _ rfl base 22 i1 _ 24 Try.underlying23 hi1 hy0 hy1 hy2 rfl (.slice Al k cl) k vs' rfl hoa (wr.heap.size + 1 + 1) (some ⟨wr.heap.size + 1, 0, none⟩) 1 1 [.slice (some ⟨wr.heap.size, 0, none⟩) 1 1] rfl (Rd.mk_ _ _ _ z1 (by omega) rfl rfl) hone (by simp only [maxLen]; omega) (by omega) (by omega) ?_; intro v5 w5 hown5 hgr5 hat5; obtain ⟨A5, c5, rfl, _, _⟩ := own_formT hown5; have hM5 := hMa.turn hgr5 (by omega) (fun g hg => by
        obtain ⟨cs, hr⟩ := own_tyT hoa hg
        exact ⟨own_blockT hoa g hg, _, cs, hr, fun q hq => by simp at hq; rcases hq with rfl | rfl <;> exact sh_ne.2.symm⟩); have kc := (hM5.get 0 rfl).cell (i := 1) (v := .slice Al k cl) rfl; have kf := (hM5.get 0 rfl).frozen 1)
      try simp only [Act.put]
      have h5 := h4.snoc (u := .slice (some ⟨wr.heap.size, 0, none⟩) 1 1) (vL' := .slice A5 (k + 1) c5) (l := [2]) (c_call b1 b2) hua (fun q hq => by simp [Value.ownBlock] at hq; omega) hgr5 (by rw [levI_lenX, Hdl.out]; exact hown5)
      have hM6 := hM5.set (by omega) (fun q hq => by simp at hq; subst hq; simp) 1 (.slice A5 (k + 1) c5)
      rw [show (#[.slice A2 m c2, .slice Al k cl] : Array Value).setIfInBounds 1 (.slice A5 (k + 1) c5) = #[.slice A2 m c2, .slice A5 (k + 1) c5] from rfl] at hM6
      have h6 := h5.far (grown_setCell _ gB 1 (.slice A5 (k + 1) c5)) (hM5.get 0 rfl) sh_ne.1 sh_ne.2
      rw [show levI done ++ [[2]] = levI R.2 by rw [Hf3.out]; simp [levI]] at h6
      generalize hus : vs' ++ [Value.slice (some ⟨wr.heap.size, 0, none⟩) 1 1] = us at h6
      refine wp_gen (fun wx => MsB base w wx [(gB, 25, #[.slice A2 m c2, .slice A5 (k + 1) c5]), (gB + 1, 25, #[.slice none 0 0, .slice none 0 0])] ∧ OwW base wx (.slice A2 m c2) (.slice A5 (k + 1) c5) us us R.1 (levI R.2)) ⟨hM6, h6⟩ ?_
      clear hM6 h6 hM5 h5 hMa hoa hua hone hown5 hgr5 hat5 kc kf hM4 h4 hll k1 b1 b2 z1 z2 hus
      rintro w7 ⟨hM7, h7⟩
      go_wp2_with (first
        | ((with_reducible show wpList _ _ _ (⟨some 80, _, _, _, _, _⟩ :: _) _ _); refine wpList_loadC (by kernel_rfl) 25 (.tmp 2) rfl gB rfl 25 #[.slice A2 m c2, .slice A5 (k + 1) c5] _ (hM7.get 0 rfl) Try.underlying25 rfl shapeInfo2 ?_)
        | ((with_reducible show wpList _ _ _ (⟨none, Op.store 25 _ _, _, _, _, _⟩ :: _) _ _); refine wpList_store_row rfl 25 (.tmp 4) (.tmp 80) rfl (gB + 1) #[.slice A2 m c2, .slice A5 (k + 1) c5] rfl rfl 25 _ (hM7.get 1 rfl) shapeInfo2 rfl (by simp [Value.oneCell']) ?_))
      try simp only [Act.put]
      have hR9 := (hM7.get 1 rfl).row #[.slice A2 m c2, .slice A5 (k + 1) c5]
      have hw9 := h7.far (grown_setRow _ (gB + 1) #[.slice A2 m c2, .slice A5 (k + 1) c5]) (hM7.get 1 rfl) sh_ne.1 sh_ne.2
      have hb9 := below_setRow hM7.old (show base ≤ (gB + 1) by omega) #[.slice A2 m c2, .slice A5 (k + 1) c5]
      refine bodyPost_ret (results_cell_one rfl _ _ (gB + 1) _ #[.slice A2 m c2, .slice A5 (k + 1) c5] _ rfl hR9 Try.underlying25 rfl shapeInfo2) rfl (Hpost.out _ _ _ _ _ _ _ _ hb9 hw9)

end Go.Proofs.Ytmganbdbihjbmaa

