import Derived.Test.YtmganbdbihjbmaaK01
import Derived.Test.YtmganbdbihjbmaaK03
import Derived.WalkSpells
import Derived.StillTailTactics
/-
  TREES IN MEMORY: lists of numbers, lists of lists, and a tree's two parts as cells.
-/
set_option linter.unusedVariables false
namespace Go.Proofs.Ytmganbdbihjbmaa
open Go.RowKit

/-- a number as a cell -/
def iv (x : Int) : Value := .int .i64 x
theorem iv_def (x : Int) : iv x = .int .i64 x := rfl

/-- lists in a list: each head reads its list -/
def Lvs (w : World) (B : Nat) (vs : List Value) (ll : List (List Int)) : Prop :=
  vs.length = ll.length ∧ ∀ (i : Nat) (v : Value) (l : List Int), vs[i]? = some v → ll[i]? = some l → ∃ A c, v = .slice A l.length c ∧ l.length ≤ c ∧ c ≤ maxLen ∧ Rd w B A l.length (l.map iv)
theorem Lvs.below {w w' : World} {B : Nat} {vs : List Value} {ll : List (List Int)} (h : Lvs w B vs ll) (hb : Below B w w') : Lvs w' B vs ll :=
  ⟨h.1, fun i v l hv hl => by
    obtain ⟨A, c, e, hc, hm, hr⟩ := h.2 i v l hv hl
    exact ⟨A, c, e, hc, hm, hr.below hb⟩⟩
theorem Lvs.more {w : World} {B B' : Nat} {vs : List Value} {ll : List (List Int)} (h : Lvs w B vs ll) (hb : B ≤ B') : Lvs w B' vs ll :=
  ⟨h.1, fun i v l hv hl => by
    obtain ⟨A, c, e, hc, hm, hr⟩ := h.2 i v l hv hl
    exact ⟨A, c, e, hc, hm, hr.more hb⟩⟩
theorem Lvs.keep {w w' : World} {B B' : Nat} (hk : ∀ (A : Option Addr) (n : Nat) (xs : List Value), Rd w B A n xs → Rd w' B' A n xs) {vs : List Value} {ll : List (List Int)} (h : Lvs w B vs ll) : Lvs w' B' vs ll :=
  ⟨h.1, fun i v l hv hl => by
    obtain ⟨A, c, e, hc, hm, hr⟩ := h.2 i v l hv hl
    exact ⟨A, c, e, hc, hm, hk _ _ _ hr⟩⟩
theorem Lvs.nil (w : World) (B : Nat) : Lvs w B [] [] := ⟨rfl, fun i v l h => by simp at h⟩
theorem Lvs.get {w : World} {B : Nat} {vs : List Value} {ll : List (List Int)} (h : Lvs w B vs ll) {i : Nat} (hi : i < ll.length) :
    ∃ A c, vs[i]? = some (.slice A ll[i].length c) ∧ ll[i].length ≤ c ∧ c ≤ maxLen ∧ Rd w B A ll[i].length (ll[i].map iv) := by
  have hv : i < vs.length := by rw [h.1]; exact hi
  obtain ⟨A, c, e, hc, hm, hr⟩ := h.2 i vs[i] ll[i] (List.getElem?_eq_getElem hv) (List.getElem?_eq_getElem hi)
  exact ⟨A, c, by rw [List.getElem?_eq_getElem hv, e], hc, hm, hr⟩

/-- a tree's cells: its members, and its levels -/
structure ShR (w : World) (B : Nat) (Ai : Option Addr) (ni ci : Nat) (Al : Option Addr) (nl cl : Nat) (ids : List Int) (ll : List (List Int)) : Prop where
  hni : ids.length = ni
  hnl : ll.length = nl
  hci : ni ≤ ci
  hcl : nl ≤ cl
  hmi : ci ≤ maxLen
  hml : cl ≤ maxLen
  hids : Rd w B Ai ni (ids.map iv)
  lvs : ∃ vs, Rd w B Al nl vs ∧ Lvs w B vs ll
theorem ShR.below {w w' : World} {B : Nat} {Ai : Option Addr} {ni ci : Nat} {Al : Option Addr} {nl cl : Nat} {ids : List Int} {ll : List (List Int)} (h : ShR w B Ai ni ci Al nl cl ids ll) (hb : Below B w w') : ShR w' B Ai ni ci Al nl cl ids ll := by
  obtain ⟨vs, h1, h2⟩ := h.lvs
  exact ⟨h.hni, h.hnl, h.hci, h.hcl, h.hmi, h.hml, h.hids.below hb, vs, h1.below hb, h2.below hb⟩
theorem ShR.more {w : World} {B B' : Nat} {Ai : Option Addr} {ni ci : Nat} {Al : Option Addr} {nl cl : Nat} {ids : List Int} {ll : List (List Int)} (h : ShR w B Ai ni ci Al nl cl ids ll) (hb : B ≤ B') : ShR w B' Ai ni ci Al nl cl ids ll := by
  obtain ⟨vs, h1, h2⟩ := h.lvs
  exact ⟨h.hni, h.hnl, h.hci, h.hcl, h.hmi, h.hml, h.hids.more hb, vs, h1.more hb, h2.more hb⟩
/-- a tree as a value -/
def shV (Ai : Option Addr) (ni ci : Nat) (Al : Option Addr) (nl cl : Nat) : Array Value := #[.slice Ai ni ci, .slice Al nl cl]
def sh0 : Array Value := #[.slice none 0 0, .slice none 0 0]

theorem RowC.grownT {w w' : World} {g : Nat} {t : TypeId} {cs : Array Value} {row : Option Nat} (h : RowC w g t cs) (hg : w.grownBy w' row) (hne : ∀ k, row = some k → g ≠ k) : RowC w' g t cs :=
  h.of (hg.block g h.lt (fun e => hne g e.symm rfl))
/-- rows stay where an own row grows -/
theorem Ms.grownT {w0 w w' : World} {L : List (Nat × TypeId × Array Value)} {row : Option Nat} (h : Ms w0 w L) (hg : w.grownBy w' row) (hr : ∀ k, row = some k → w0.heap.size ≤ k) (hne : ∀ p ∈ L, ∀ k, row = some k → p.1 ≠ k) : Ms w0 w' L :=
  ⟨h.old.grown hg h.old.size hr, fun p hp => (h.rows p hp).grownT hg (hne p hp)⟩
theorem Ms.allocT {w0 w : World} {L : List (Nat × TypeId × Array Value)} (h : Ms w0 w L) (o : Obj) : Ms w0 (w.alloc o) L := ⟨h.old.alloc h.old.size _, fun p hp => (h.rows p hp).alloc o⟩
theorem own_blockT {w : World} {base : Nat} {e : TypeId} {size : Nat} {v : Value} {n : Nat} {xs : List Value} (h : w.ownsRow base e size v n xs) : ∀ k, v.ownBlock = some k → base ≤ k := by
  intro k hk
  rcases h.2 with ⟨h1, _⟩ | ⟨g, cap, cur, h1, h2, _⟩
  · subst h1; cases hk
  · subst h1
    have : g = k := by simpa [Value.ownBlock] using hk
    omega
theorem Ms.setT {w0 w : World} {g : Nat} {t : TypeId} {cs : Array Value} {L : List (Nat × TypeId × Array Value)} (h : Ms w0 w ((g, t, cs) :: L)) (hg : w0.heap.size ≤ g) (hne : ∀ p ∈ L, p.1 ≠ g) (cs' : Array Value) :
    Ms w0 (w.setRow g cs') ((g, t, cs') :: L) :=
  ⟨below_setRow h.old hg _, fun p hp => by
    rcases List.mem_cons.1 hp with rfl | hp
    · exact (h.rows (g, t, cs) (by simp)).row cs'
    · exact (h.rows p (by simp [hp])).rowFar (hne p hp) cs'⟩
theorem own_grownT {w w' : World} {base : Nat} {e : TypeId} {size : Nat} {v : Value} {n : Nat} {xs : List Value} {row : Option Nat} (h : w.ownsRow base e size v n xs) (hg : w.grownBy w' row) (hne : ∀ g, v.ownBlock = some g → row ≠ some g) : w'.ownsRow base e size v n xs := by
  refine ⟨h.1, ?_⟩
  rcases h.2 with hn | ⟨g, cap, cur, hv, hb, hc, rest⟩
  · exact .inl hn
  · exact .inr ⟨g, cap, cur, hv, hb, by rw [hg.block g (Array.getElem?_eq_some_iff.1 hc).1 (fun e => hne g (by rw [hv]; rfl) e.symm)]; exact hc, rest⟩
theorem own_ltT {w : World} {base : Nat} {e : TypeId} {size : Nat} {v : Value} {n : Nat} {xs : List Value} (h : w.ownsRow base e size v n xs) : ∀ g, v.ownBlock = some g → g < w.heap.size := by
  intro k hk
  rcases h.2 with ⟨h1, _⟩ | ⟨g, cap, cur, h1, h2, hc, _⟩
  · subst h1; cases hk
  · subst h1
    have : g = k := by simpa [Value.ownBlock] using hk
    subst this
    exact (Array.getElem?_eq_some_iff.1 hc).1
theorem own_cellT {w : World} {base : Nat} {e : TypeId} {size : Nat} {v : Value} {n : Nat} {xs : List Value} (h : w.ownsRow base e size v n xs) {p : Addr} (hp : ∀ g, v.ownBlock = some g → g ≠ p.block) (u : Value) : (w.setCell p u).ownsRow base e size v n xs := by
  refine ⟨h.1, ?_⟩
  rcases h.2 with hn | ⟨g, cap, cur, hv, hb, hc, rest⟩
  · exact .inl hn
  · exact .inr ⟨g, cap, cur, hv, hb, by rw [Below.heap_setCell w p u g (hp g (by rw [hv]; rfl))]; exact hc, rest⟩
theorem own_formT {w : World} {base : Nat} {e : TypeId} {size : Nat} {v : Value} {n : Nat} {xs : List Value} (h : w.ownsRow base e size v n xs) : ∃ A c, v = .slice A n c ∧ n ≤ c ∧ c ≤ maxLen := by
  rcases h.2 with ⟨rfl, rfl⟩ | ⟨g, cap, cur, rfl, _, _, hc, hm, _⟩
  · exact ⟨_, _, rfl, Nat.le_refl _, by simp [maxLen]⟩
  · exact ⟨_, _, rfl, hc, hm⟩

end Go.Proofs.Ytmganbdbihjbmaa

/-
  CONTRACTS of the document's SameInts and Find (coterieref10).
-/
set_option linter.unusedVariables false
namespace Go.Proofs.Ytmganbdbihjbmaa
open Go.RowKit

theorem SameInts_any (A A' : Option Addr) (k c k' c' : Nat) (l l' : List Int) (w : World) (hk : k ≤ maxLen) (hr : Rd w w.heap.size A k (l.map iv)) (hr' : Rd w w.heap.size A' k' (l'.map iv)) :
    Calls Try.prog 34 #[.slice A k c, .slice A' k' c'] w fun e w' => e = .returned (.bool (l == l')) ∧ Below w.heap.size w w' := by
  have hl : l.length = k := by simpa using hr.len
  have hl' : l'.length = k' := by simpa using hr'.len
  rw [maxLen] at hk
  go_enter Try.func34, Try.ntmps34
  by_cases hkk : k = k'
  rotate_left
  · have e1 : (l == l') = false := by rw [beq_eq_false_iff_ne]; intro e; subst e; omega
    have hne : ¬ (k : Int) = (k' : Int) := by omega
    go_wp2_with fail
    go_ret
    exact ⟨by rw [e1]; rfl, Below.refl _ _⟩
  subst hkk
  go_wp2_with fail
  go_loopw [13] (fun i wr => ∃ j : Nat, j ≤ k ∧ i = .int .i64 (j : Int) ∧ l.take j = l'.take j ∧ Below w.heap.size w wr) (fun i _ => k - (intOf i).toNat)
  case atStart => exact ⟨0, by omega, rfl, rfl, Below.refl _ _⟩
  case round =>
    obtain ⟨j, hj, rfl, ht, hb⟩ := hrel
    by_cases hlt : j < k
    · obtain ⟨x, hx⟩ : ∃ x, l[j]? = some x := ⟨_, List.getElem?_eq_getElem (by omega)⟩
      obtain ⟨y, hy⟩ : ∃ y, l'[j]? = some y := ⟨_, List.getElem?_eq_getElem (by omega)⟩
      have hrw := hr.below hb
      have hrw' := hr'.below hb
      obtain ⟨g, o, rfl, hg, hc⟩ := hrw.pos (by omega)
      obtain ⟨g', o', rfl, hg', hc'⟩ := hrw'.pos (by omega)
      have c1 := hc j (iv x) (by rw [List.getElem?_map, hx]; rfl)
      have c2 := hc' j (iv y) (by rw [List.getElem?_map, hy]; rfl)
      rw [iv_def] at c1 c2
      clear hc hc'
      by_cases hxy : x = y
      · have hn : (x != y) = false := by rw [bne_eq_false_iff_eq]; exact hxy
        have Hs := Lib.hid (show l.take (j + 1) = l'.take (j + 1) by
          rw [List.take_add_one, List.take_add_one, ht, hx, hy, hxy])
        clear hxy hx hy ht
        go_wp2_with fail
        go_quiet (fail)
        go_wp2_with fail
        go_roundw
        case rel => exact ⟨j + 1, by omega, by go_num, Hs.out, below_drewN hb _⟩
        case measure => simp [intOf]; omega
      · have hn : (x != y) = true := by rw [bne_iff_ne]; exact hxy
        have Hs := Lib.hid (show (l == l') = false by
          rw [beq_eq_false_iff_ne]
          rintro rfl
          rw [hx] at hy
          exact hxy (Option.some.inj hy))
        clear hxy hx hy ht
        go_wp2_with fail
        go_quiet (fail)
        go_wp2_with fail
        go_ret
        exact ⟨by rw [Hs.out]; rfl, below_drewN hb _⟩
    · obtain rfl : j = k := by omega
      go_wp2_with fail
      go_ret
      rw [List.take_of_length_le (by omega), List.take_of_length_le (by omega)] at ht
      exact ⟨by rw [ht]; simp, hb⟩

def fewT (ids : List Int) (ll : List (List Int)) : Bool := ll.all (fun l => decide (l.length ≤ 1100)) && (decide (ids.length ≤ 1100) && decide (ll.length ≤ 20))
theorem all_take {α : Type} (p : α → Bool) {l : List α} {j : Nat} {x : α} (h : (l.take j).all p = true) (hx : l[j]? = some x) (hp : p x = true) : (l.take (j + 1)).all p = true := by
  rw [List.take_add_one, hx, List.all_append, h]
  simp [hp]
theorem all_not {α : Type} (p : α → Bool) {l : List α} {j : Nat} {x : α} (hx : l[j]? = some x) (hp : p x = false) : l.all p = false := by
  rw [List.all_eq_false]
  exact ⟨x, List.mem_of_getElem? hx, by simp [hp]⟩
theorem FewT_any (Ai : Option Addr) (ni ci : Nat) (Al : Option Addr) (nl cl : Nat) (ids : List Int) (ll : List (List Int)) (w : World) (h : ShR w w.heap.size Ai ni ci Al nl cl ids ll) :
    Calls Try.prog 25 #[.agg (shV Ai ni ci Al nl cl)] w fun e w' => e = .returned (.bool (fewT ids ll)) ∧ Below w.heap.size w w' := by
  have Hni := Lib.hid h.hni
  have Hnl := Lib.hid h.hnl
  have hml := h.hml
  have hcl := h.hcl
  obtain ⟨vs, hv, hlv⟩ := h.lvs
  rw [maxLen] at hml
  rw [shV]
  go_enter Try.func25, Try.ntmps25
  go_wp2_with fail
  go_loopw [8] (fun i wr => ∃ j : Nat, j ≤ nl ∧ i = .int .i64 (j : Int) ∧ (ll.take j).all (fun l => decide (l.length ≤ 1100)) = true ∧ RowC wr w.heap.size 25 #[.slice Ai ni ci, .slice Al nl cl] ∧ Below w.heap.size w wr) (fun i _ => nl - (intOf i).toNat)
  case atStart => exact ⟨0, by omega, rfl, rfl, RowC.new _ _ _, (Below.refl _ _).alloc (Nat.le_refl _) _⟩
  case round =>
    obtain ⟨j, hj, rfl, ht, hR, hb⟩ := hrel
    by_cases hlt : j < nl
    · obtain ⟨A, c, hvj, hc, hm, hrj⟩ := hlv.get (show j < ll.length by rw [Hnl.out]; exact hlt)
      obtain ⟨g, o, rfl, hg, hcell⟩ := (hv.below hb).pos (by omega)
      have c1 := hcell j _ hvj
      have Hlj := Lib.hid (List.getElem?_eq_getElem (show j < ll.length by rw [Hnl.out]; exact hlt))
      clear hcell hvj hrj
      generalize ll[j]'(by rw [Hnl.out]; exact hlt) = l at *
      rw [maxLen] at hm
      by_cases hbig : l.length ≤ 1100
      · have hbig' : ¬ (1100 : Int) < (l.length : Int) := by omega
        have Ht := Lib.hid (all_take _ ht Hlj.out (decide_eq_true hbig))
        clear ht
        go_wp2_with fail
        go_roundw
        case rel => exact ⟨j + 1, by omega, by go_num, Ht.out, hR, hb⟩
        case measure => simp [intOf]; omega
      · have hbig' : (1100 : Int) < (l.length : Int) := by omega
        have Hf := Lib.hid (show fewT ids ll = false by rw [fewT, all_not _ Hlj.out (decide_eq_false hbig)]; rfl)
        clear ht
        go_wp2_with fail
        go_ret
        exact ⟨by rw [Hf.out]; rfl, hb⟩
    · obtain rfl : j = nl := by omega
      rw [List.take_of_length_le (by rw [Hnl.out]; exact Nat.le_refl _)] at ht
      have hc0 := hR.cell (i := 0) (v := .slice Ai ni ci) rfl
      have hc1 := hR.cell (i := 1) (v := .slice Al j cl) rfl
      by_cases hi : ni ≤ 1100
      · have e1 : (ni : Int) ≤ 1100 := by omega
        have Hf := Lib.hid (show fewT ids ll = decide ((j : Int) ≤ 20) by rw [fewT, ht, Hni.out, Hnl.out]; simp [hi]; omega)
        clear ht
        go_wp2_with fail
        go_ret
        exact ⟨by rw [Hf.out]; rfl, hb⟩
      · have e1 : ¬ (ni : Int) ≤ 1100 := by omega
        have Hf := Lib.hid (show fewT ids ll = false by rw [fewT, Hni.out, decide_eq_false hi]; simp)
        clear ht
        go_wp2_with fail
        go_ret
        exact ⟨by rw [Hf.out]; rfl, hb⟩

end Go.Proofs.Ytmganbdbihjbmaa

