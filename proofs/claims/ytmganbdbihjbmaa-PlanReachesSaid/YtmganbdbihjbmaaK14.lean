import Derived.Test.YtmganbdbihjbmaaK10
/-
  A BOX OUT OF SIGHT: what reads in a world one of whose boxes is empty lies in other blocks; a store into that box leaves it.
-/
set_option linter.unusedVariables false
namespace Go.Proofs.Ytmganbdbihjbmaa
open Go.RowKit

/-- the world without what one box holds -/
def hid1 (w : World) (g : Nat) : World := w.setRow g #[]
theorem hid1_size (w : World) (g : Nat) : (hid1 w g).heap.size = w.heap.size := by simp [hid1, World.setRow]
theorem hid1_setCell (w : World) (g i : Nat) (v : Value) : hid1 (w.setCell ⟨g, i, none⟩ v) g = hid1 w g := by
  unfold hid1 World.setRow World.setCell
  congr 1
  apply Array.ext_getElem?
  intro k
  simp only [Array.getElem?_modify]
  by_cases h : g = k
  · simp only [h, if_true]
    cases w.heap[k]? with
    | none => rfl
    | some o => cases o <;> rfl
  · simp [h]
theorem Rd.unhide1 {w : World} {g : Nat} {t : TypeId} {cs : Array Value} (hg : RowC w g t cs) {B n : Nat} {A : Option Addr} {xs : List Value} (h : Rd (hid1 w g) B A n xs) : Rd w B A n xs ∧ (0 < n → ∀ ad, A = some ad → ad.block ≠ g) := by
  have hrow : (hid1 w g).heap[g]? = some (.cells #[] t (0, 0)) := setRow_heap w g cs #[] t (0, 0) hg
  have hne : 0 < n → ∀ ad, A = some ad → ad.block ≠ g := by
    intro hn ad had e
    obtain ⟨b, o, h1, h2, h3⟩ := h.pos hn
    rw [h1] at had
    injection had with had
    subst had
    have hb : b = g := e
    subst hb
    obtain ⟨u, hu⟩ : ∃ u, xs[0]? = some u := ⟨_, List.getElem?_eq_getElem (by rw [h.len]; exact hn)⟩
    have := h3 0 u hu
    rw [cell_of_row _ b (o + 0) #[] t (0, 0) hrow] at this
    simp at this
  refine ⟨⟨h.len, fun hn => ?_⟩, hne⟩
  obtain ⟨b, o, h1, h2, h3⟩ := h.pos hn
  refine ⟨b, o, h1, h2, fun j u hu => ?_⟩
  rw [← h3 j u hu]
  exact (cell_setRow_other w g #[] ⟨b, o + j, none⟩ (show b ≠ g from hne hn ⟨b, o, none⟩ h1)).symm
theorem Rd.hide1 {w : World} {g : Nat} {B n : Nat} {A : Option Addr} {xs : List Value} (h : Rd w B A n xs) (hne : 0 < n → ∀ ad, A = some ad → ad.block ≠ g) : Rd (hid1 w g) B A n xs := by
  refine ⟨h.len, fun hn => ?_⟩
  obtain ⟨b, o, h1, h2, h3⟩ := h.pos hn
  refine ⟨b, o, h1, h2, fun j u hu => ?_⟩
  rw [← h3 j u hu]
  exact cell_setRow_other w g #[] ⟨b, o + j, none⟩ (show b ≠ g from hne hn ⟨b, o, none⟩ h1)
theorem hid_keep1 {w w' : World} {g : Nat} {t : TypeId} {cs : Array Value} (hg : RowC w g t cs) {B B' : Nat} (hk : ∀ (A : Option Addr) (n : Nat) (xs : List Value), Rd w B A n xs → Rd w' B' A n xs) :
    ∀ (A : Option Addr) (n : Nat) (xs : List Value), Rd (hid1 w g) B A n xs → Rd (hid1 w' g) B' A n xs := fun A n xs h =>
  have h1 := h.unhide1 hg
  (hk _ _ _ h1.1).hide1 h1.2
theorem hid_low1 {w : World} {g : Nat} {B : Nat} (hB : B ≤ g) : ∀ (A : Option Addr) (n : Nat) (xs : List Value), Rd w B A n xs → Rd (hid1 w g) B A n xs := fun A n xs h =>
  h.hide1 fun hn ad had => by
    obtain ⟨b, o, h1, h2, _⟩ := h.pos hn
    rw [h1] at had
    injection had with had
    subst had
    show b ≠ g
    omega
theorem unhid1 {w : World} {g : Nat} {t : TypeId} {cs : Array Value} (hg : RowC w g t cs) {B : Nat} : ∀ (A : Option Addr) (n : Nat) (xs : List Value), Rd (hid1 w g) B A n xs → Rd w B A n xs := fun A n xs h => (h.unhide1 hg).1
theorem own_hide1 {w : World} {g base : Nat} {e : TypeId} {size : Nat} {v : Value} {n : Nat} {xs : List Value} (h : w.ownsRow base e size v n xs) (hg : g < base) : (hid1 w g).ownsRow base e size v n xs := by
  refine ⟨h.1, ?_⟩
  rcases h.2 with hn | ⟨k, cap, cur, hv, hb, hc, rest⟩
  · exact .inl hn
  · exact .inr ⟨k, cap, cur, hv, hb, by rw [hid1, setRow_other w g k #[] (by omega)]; exact hc, rest⟩
/-- two boxes -/
structure Bx (w : World) (g g' : Nat) : Prop where
  ne : g' ≠ g
  one : ∃ t cs, RowC w g t cs
  two : ∃ t cs, RowC w g' t cs
theorem Bx.inner {w : World} {g g' : Nat} (h : Bx w g g') : ∃ t cs, RowC (hid1 w g) g' t cs := by
  obtain ⟨t, cs, hr⟩ := h.two
  exact ⟨t, cs, hr.rowFar h.ne #[]⟩
/-- the world without what two boxes hold -/
def hidB (w : World) (g g' : Nat) : World := hid1 (hid1 w g) g'
theorem hidB_size (w : World) (g g' : Nat) : (hidB w g g').heap.size = w.heap.size := by rw [hidB, hid1_size, hid1_size]
theorem hidB_setCell (w : World) (g g' i : Nat) (v : Value) : hidB (w.setCell ⟨g, i, none⟩ v) g g' = hidB w g g' := by rw [hidB, hid1_setCell]; rfl
theorem Rd.unhide {w : World} {g g' : Nat} (hg : Bx w g g') {B n : Nat} {A : Option Addr} {xs : List Value} (h : Rd (hidB w g g') B A n xs) : Rd w B A n xs ∧ (0 < n → ∀ ad, A = some ad → ad.block ≠ g ∧ ad.block ≠ g') := by
  obtain ⟨t, cs, hr⟩ := hg.inner
  obtain ⟨t2, cs2, hr2⟩ := hg.one
  have h1 := Rd.unhide1 hr h
  have h2 := Rd.unhide1 hr2 h1.1
  exact ⟨h2.1, fun hn ad had => ⟨h2.2 hn ad had, h1.2 hn ad had⟩⟩
theorem Rd.hide {w : World} {g g' : Nat} {B n : Nat} {A : Option Addr} {xs : List Value} (h : Rd w B A n xs) (hne : 0 < n → ∀ ad, A = some ad → ad.block ≠ g ∧ ad.block ≠ g') : Rd (hidB w g g') B A n xs :=
  (h.hide1 fun hn ad had => (hne hn ad had).1).hide1 fun hn ad had => (hne hn ad had).2
theorem hid_keep {w w' : World} {g g' : Nat} (hg : Bx w g g') {B B' : Nat} (hk : ∀ (A : Option Addr) (n : Nat) (xs : List Value), Rd w B A n xs → Rd w' B' A n xs) :
    ∀ (A : Option Addr) (n : Nat) (xs : List Value), Rd (hidB w g g') B A n xs → Rd (hidB w' g g') B' A n xs := fun A n xs h =>
  have h1 := h.unhide hg
  (hk _ _ _ h1.1).hide h1.2
theorem hid_low {w : World} {g g' : Nat} {B : Nat} (hB : B ≤ g) (hB' : B ≤ g') : ∀ (A : Option Addr) (n : Nat) (xs : List Value), Rd w B A n xs → Rd (hidB w g g') B A n xs := fun A n xs h =>
  hid_low1 hB' _ _ _ (hid_low1 hB _ _ _ h)
theorem unhid {w : World} {g g' : Nat} (hg : Bx w g g') {B : Nat} : ∀ (A : Option Addr) (n : Nat) (xs : List Value), Rd (hidB w g g') B A n xs → Rd w B A n xs := fun A n xs h => (h.unhide hg).1
theorem own_hide {w : World} {g g' base : Nat} {e : TypeId} {size : Nat} {v : Value} {n : Nat} {xs : List Value} (h : w.ownsRow base e size v n xs) (hg : g < base) (hg' : g' < base) : (hidB w g g').ownsRow base e size v n xs := own_hide1 (own_hide1 h hg) hg'
/-- what reads with the boxes out of sight reads after the second one has been written -/
theorem hid_row {w : World} {g g' : Nat} (hg : Bx w g g') (cs : Array Value) {B : Nat} : ∀ (A : Option Addr) (n : Nat) (xs : List Value), Rd (hidB w g g') B A n xs → Rd (w.setRow g' cs) B A n xs := fun A n xs h => by
  have h1 := h.unhide hg
  refine ⟨h1.1.len, fun hn => ?_⟩
  obtain ⟨b, o, e1, e2, e3⟩ := h1.1.pos hn
  refine ⟨b, o, e1, e2, fun j u hu => ?_⟩
  rw [cell_setRow_other w g' cs ⟨b, o + j, none⟩ (show b ≠ g' from (h1.2 hn ⟨b, o, none⟩ e1).2)]
  exact e3 j u hu
theorem Ms.setCellT {w0 w : World} {g : Nat} {t : TypeId} {cs : Array Value} {L : List (Nat × TypeId × Array Value)} (h : Ms w0 w ((g, t, cs) :: L)) (hg : w0.heap.size ≤ g) (hne : ∀ p ∈ L, p.1 ≠ g) (i : Nat) (v : Value) :
    Ms w0 (w.setCell ⟨g, i, none⟩ v) ((g, t, cs.setIfInBounds i v) :: L) :=
  ⟨h.old.setCell hg _, fun p hp => by
    rcases List.mem_cons.1 hp with rfl | hp
    · exact (h.rows (g, t, cs) (by simp)).set_ i v
    · exact (h.rows p (by simp [hp])).far (hne p hp) v⟩

/-- a node of a slice, read in the world itself -/
theorem SlN.rangeH {w : World} {g g' : Nat} (hg : Bx w g g') {B : Nat} {A : Option Addr} {n c : Nat} {F : List Nd} (h : SlN (hidB w g g') B A n c F) {i : Nat} (hi : i < F.length) :
    ∃ b o v, A = some ⟨b, o, none⟩ ∧ b < B ∧ NdV (hidB w g g') B F[i] v ∧ w.rangeAt b (o + i * 2) [iv F[i].id, v] ∧ w.cell? ⟨b, o + i * 2 + 1, none⟩ = some v := by
  obtain ⟨h1, h2, h3, vs, h4, h5⟩ := h
  have h6 := (h5.unhide hg).1
  obtain ⟨b, o, e, hb, hc⟩ := h6.pos (by omega)
  obtain ⟨v, r1, r2, r3, r4⟩ := h4.get hi
  have c1 := hc _ _ r3
  have c2 := hc _ _ r4
  rw [show o + (2 * i + 1) = o + i * 2 + 1 by omega] at c2
  rw [show o + 2 * i = o + i * 2 by omega] at c1
  refine ⟨b, o, v, e, hb, r2, fun j u hu => ?_, c2⟩
  match j, hu with
  | 0, hu =>
    injection hu with hu
    subst hu
    exact c1
  | 1, hu =>
    injection hu with hu
    subst hu
    exact c2
  | j + 2, hu => simp at hu

/-- the world without what some blocks hold -/
def vw : List Nat → World → World
  | [], w => w
  | g :: gs, w => vw gs (hid1 w g)
/-- these are blocks of cells -/
def Cells (gs : List Nat) (w : World) : Prop := ∀ g ∈ gs, ∃ t cs, RowC w g t cs
theorem Cells.hid {gs : List Nat} {w : World} (h : Cells gs w) (g : Nat) : Cells gs (hid1 w g) := by
  intro k hk
  obtain ⟨t, cs, hr⟩ := h k hk
  by_cases e : k = g
  · subst e
    exact ⟨t, #[], setRow_heap w k cs #[] t (0, 0) hr⟩
  · exact ⟨t, cs, hr.rowFar e #[]⟩
theorem Cells.below {gs : List Nat} {w w' : World} (h : Cells gs w) (hb : Below w.heap.size w w') : Cells gs w' := fun g hg => by
  obtain ⟨t, cs, hr⟩ := h g hg
  exact ⟨t, cs, hr.call hb⟩
theorem vw_iff : ∀ {gs : List Nat} {w : World}, Cells gs w → ∀ {B n : Nat} {A : Option Addr} {xs : List Value}, Rd (vw gs w) B A n xs ↔ Rd w B A n xs ∧ (0 < n → ∀ ad, A = some ad → ad.block ∉ gs)
  | [], w, _, B, n, A, xs => ⟨fun h => ⟨h, fun _ _ _ => by simp⟩, fun h => h.1⟩
  | g :: gs, w, hc, B, n, A, xs => by
    have hc2 : Cells gs (hid1 w g) := Cells.hid (fun k hk => hc k (by simp [hk])) g
    obtain ⟨t, cs, hr⟩ := hc g (by simp)
    rw [vw, vw_iff hc2]
    constructor
    · rintro ⟨h1, h2⟩
      obtain ⟨h3, h4⟩ := Rd.unhide1 hr h1
      exact ⟨h3, fun hn ad had hm => by
        rcases List.mem_cons.1 hm with e | hm
        · exact h4 hn ad had e
        · exact h2 hn ad had hm⟩
    · rintro ⟨h1, h2⟩
      exact ⟨h1.hide1 fun hn ad had e => h2 hn ad had (by simp [e]), fun hn ad had hm => h2 hn ad had (by simp [hm])⟩
theorem vw_keep {gs : List Nat} {w w' : World} (hc : Cells gs w) (hc' : Cells gs w') {B B' : Nat} (hk : ∀ (A : Option Addr) (n : Nat) (xs : List Value), Rd w B A n xs → Rd w' B' A n xs) :
    ∀ (A : Option Addr) (n : Nat) (xs : List Value), Rd (vw gs w) B A n xs → Rd (vw gs w') B' A n xs := fun A n xs h =>
  have h1 := (vw_iff hc).1 h
  (vw_iff hc').2 ⟨hk _ _ _ h1.1, h1.2⟩
theorem vw_un {gs : List Nat} {w : World} (hc : Cells gs w) {B : Nat} : ∀ (A : Option Addr) (n : Nat) (xs : List Value), Rd (vw gs w) B A n xs → Rd w B A n xs := fun _ _ _ h => ((vw_iff hc).1 h).1
/-- what lies in other blocks is kept where a block out of sight, or a later one, grows -/
theorem vw_grown {gs : List Nat} {w w' : World} {row : Option Nat} (hc : Cells gs w) (hc' : Cells gs w') (hg : w.grownBy w' row) {B : Nat} (hr : ∀ k, row = some k → k ∈ gs ∨ B ≤ k) (hB : B ≤ w.heap.size) :
    ∀ (A : Option Addr) (n : Nat) (xs : List Value), Rd (vw gs w) B A n xs → Rd (vw gs w') B A n xs := fun A n xs h => by
  have h1 := (vw_iff hc).1 h
  refine (vw_iff hc').2 ⟨⟨h1.1.len, fun hn => ?_⟩, h1.2⟩
  obtain ⟨b, o, e1, e2, e3⟩ := h1.1.pos hn
  have hne : b ∉ gs := fun e => h1.2 hn _ e1 e
  refine ⟨b, o, e1, e2, fun j u hu => ?_⟩
  rw [← e3 j u hu]
  exact World.cell?_of_block (hg.block b (by omega) (fun e => by
    rcases hr b e.symm with h2 | h2
    · exact hne h2
    · omega))
/-- what lies in other blocks than an own row is kept, and lies so still, where that row grows -/
theorem vw_step {gs : List Nat} {w w' : World} {v v' : Value} (hc : Cells (v.ownBlock.toList ++ gs) w) (hcg : Cells gs w') (hc' : Cells (v'.ownBlock.toList ++ gs) w')
    (hg : w.grownBy w' v.ownBlock) (hat : v'.ownBlock = v.ownBlock ∨ v'.ownBlock = some w.heap.size) {B : Nat} (hB : B ≤ w.heap.size) :
    ∀ (A : Option Addr) (n : Nat) (xs : List Value), Rd (vw (v.ownBlock.toList ++ gs) w) B A n xs → Rd (vw (v'.ownBlock.toList ++ gs) w') B A n xs := fun A n xs h => by
  have h1 := (vw_iff hc).1 h
  refine (vw_iff hc').2 ⟨⟨h1.1.len, fun hn => ?_⟩, fun hn ad had hm => ?_⟩
  · obtain ⟨b, o, e1, e2, e3⟩ := h1.1.pos hn
    have hne : b ∉ v.ownBlock.toList ++ gs := fun e => h1.2 hn _ e1 e
    refine ⟨b, o, e1, e2, fun j u hu => ?_⟩
    rw [← e3 j u hu]
    exact World.cell?_of_block (hg.block b (by omega) (fun e => hne (by rw [← e]; simp)))
  · obtain ⟨b, o, e1, e2, _⟩ := h1.1.pos hn
    rw [e1] at had
    injection had with had
    subst had
    have hne : b ∉ v.ownBlock.toList ++ gs := fun e => h1.2 hn _ e1 e
    have hm' : b ∈ v'.ownBlock.toList ++ gs := hm
    rcases hat with h2 | h2
    · rw [h2] at hm'
      exact hne hm'
    · rw [h2] at hm'
      rcases List.mem_append.1 hm' with h3 | h3
      · simp at h3
        omega
      · exact hne (by simp [h3])
theorem vw_less {l gs : List Nat} {w : World} (hc : Cells (l ++ gs) w) {B : Nat} : ∀ (A : Option Addr) (n : Nat) (xs : List Value), Rd (vw (l ++ gs) w) B A n xs → Rd (vw gs w) B A n xs := fun A n xs h => by
  have h1 := (vw_iff hc).1 h
  exact (vw_iff (fun g hg => hc g (by simp [hg]))).2 ⟨h1.1, fun hn ad had hm => h1.2 hn ad had (by simp [hm])⟩
theorem vw_more {l gs : List Nat} {w : World} (hc : Cells (l ++ gs) w) {B B' : Nat} (hl : ∀ k ∈ l, B ≤ k) (hB : B ≤ B') : ∀ (A : Option Addr) (n : Nat) (xs : List Value), Rd (vw gs w) B A n xs → Rd (vw (l ++ gs) w) B' A n xs := fun A n xs h => by
  have h1 := (vw_iff (fun g hg => hc g (by simp [hg]))).1 h
  refine (vw_iff hc).2 ⟨h1.1.more hB, fun hn ad had hm => ?_⟩
  rcases List.mem_append.1 hm with hm | hm
  · obtain ⟨b, o, e1, e2, _⟩ := h1.1.pos hn
    rw [e1] at had
    injection had with had
    subst had
    have h3 : B ≤ b := hl _ hm
    omega
  · exact h1.2 hn ad had hm
theorem vw_new {gs : List Nat} {w : World} (hc : Cells gs w) {B n lo : Nat} {A : Option Addr} {xs : List Value} (h : Rd w B A n xs) (hlo : ∀ ad, A = some ad → lo ≤ ad.block) (hg : ∀ g ∈ gs, g < lo) : Rd (vw gs w) B A n xs :=
  (vw_iff hc).2 ⟨h, fun hn ad had hm => by
    have h1 := hlo ad had
    have h2 := hg _ hm
    omega⟩
theorem own_vw : ∀ {gs : List Nat} {w : World} {base : Nat} {e : TypeId} {size : Nat} {v : Value} {n : Nat} {xs : List Value}, w.ownsRow base e size v n xs → (∀ g ∈ gs, g < base) → (vw gs w).ownsRow base e size v n xs
  | [], w, base, e, size, v, n, xs, h, _ => h
  | g :: gs, w, base, e, size, v, n, xs, h, hg => own_vw (gs := gs) (w := hid1 w g) (own_hide1 h (hg g (by simp))) (fun k hk => hg k (by simp [hk]))
theorem vw_size : ∀ (gs : List Nat) (w : World), (vw gs w).heap.size = w.heap.size
  | [], w => rfl
  | g :: gs, w => by rw [vw, vw_size gs, hid1_size]
theorem Cells.lt {gs : List Nat} {w : World} (h : Cells gs w) : ∀ g ∈ gs, g < w.heap.size := fun g hg => by
  obtain ⟨t, cs, hr⟩ := h g hg
  exact hr.lt
theorem Cells.own {gs : List Nat} {w : World} (h : Cells gs w) {base : Nat} {e : TypeId} {size : Nat} {v : Value} {n : Nat} {xs : List Value} (ho : w.ownsRow base e size v n xs) : Cells (v.ownBlock.toList ++ gs) w := by
  intro g hg
  rcases List.mem_append.1 hg with hg | hg
  · rcases ho.2 with ⟨h1, _⟩ | ⟨k, cap, cur, h1, h2, h3, _⟩
    · subst h1; simp [Value.ownBlock] at hg
    · subst h1
      have : k = g := by simpa [Value.ownBlock, eq_comm] using hg
      subst this
      exact ⟨e, cur, h3⟩
  · exact h g hg

/-- a node of a slice, read in the world itself -/
theorem SlN.rangeV {gs : List Nat} {w : World} (hg : Cells gs w) {B : Nat} {A : Option Addr} {n c : Nat} {F : List Nd} (h : SlN (vw gs w) B A n c F) {i : Nat} (hi : i < F.length) :
    ∃ b o v, A = some ⟨b, o, none⟩ ∧ b < B ∧ NdV (vw gs w) B F[i] v ∧ w.rangeAt b (o + i * 2) [iv F[i].id, v] ∧ w.cell? ⟨b, o + i * 2 + 1, none⟩ = some v := by
  obtain ⟨h1, h2, h3, vs, h4, h5⟩ := h
  have h6 := vw_un hg _ _ _ h5
  obtain ⟨b, o, e, hb, hc⟩ := h6.pos (by omega)
  obtain ⟨v, r1, r2, r3, r4⟩ := h4.get hi
  have c1 := hc _ _ r3
  have c2 := hc _ _ r4
  rw [show o + (2 * i + 1) = o + i * 2 + 1 by omega] at c2
  rw [show o + 2 * i = o + i * 2 by omega] at c1
  refine ⟨b, o, v, e, hb, r2, fun j u hu => ?_, c2⟩
  match j, hu with
  | 0, hu =>
    injection hu with hu
    subst hu
    exact c1
  | 1, hu =>
    injection hu with hu
    subst hu
    exact c2
  | j + 2, hu => simp at hu

end Go.Proofs.Ytmganbdbihjbmaa

