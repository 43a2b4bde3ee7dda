import Derived.Test.YtbickllpledlbaaG14
import Derived.Test.YtbickllpledlbaaG15
/-
  CONTRACT of the document's Of (coterieref10).
-/
set_option linter.unusedVariables false
namespace Go.Proofs.Ytbickllpledlbaa
open Go.RowKit

def levI (lv : List (List Nat)) : List (List Int) := lv.map (fun l => l.map (fun n : Nat => (n : Int)))
theorem shapeInfo2 : (Try.prog.info? 25).map (·.size) = some 2 := by kernel_rfl
theorem listInfo : (Try.prog.info? 22).map (fun i => (i.zero, i.size, i.bytes)) = some (some (.slice none 0 0), 1, 24) := by kernel_rfl
theorem shZ : (sh0 : Array Value) = #[.slice none 0 0, .slice none 0 0] := rfl
theorem lens_len (F : List Nd) : (lensF F).length = F.length := by simp [lensF]
theorem Lvs.cons {w : World} {B : Nat} {vs : List Value} {ll : List (List Int)} {A : Option Addr} {c : Nat} {l : List Int} (h : Lvs w B vs ll) (hc : l.length ≤ c) (hm : c ≤ maxLen) (hr : Rd w B A l.length (l.map iv)) : Lvs w B (.slice A l.length c :: vs) (l :: ll) := by
  refine ⟨by rw [List.length_cons, List.length_cons, h.1], fun i v l' hv hl => ?_⟩
  cases i with
  | zero =>
    simp only [List.getElem?_cons_zero, Option.some.injEq] at hv hl
    subst hv hl
    exact ⟨A, c, rfl, hc, hm, hr⟩
  | succ i => exact h.2 i v l' (by simpa using hv) (by simpa using hl)
theorem hi_kids0 {k : Nat} {x : Nd} (hx : Nd.hi k x) : (x.kids.length = 0 ↔ k = 0) := by
  cases k with
  | zero =>
    obtain ⟨i, rfl⟩ := hi_zero hx
    exact ⟨fun _ => rfl, fun _ => rfl⟩
  | succ k =>
    have := (hi_succ hx).1
    constructor <;> intro h <;> omega
theorem ids_kids_len {k : Nat} : ∀ {F : List Nd}, allH k F → F.length ≤ (idsF F).length
  | [], _ => Nat.le_refl _
  | x :: F, ha => by
    have h1 := ids_kids_len (F := F) (fun y hy => ha y (by simp [hy]))
    have h2 : 0 < x.ids.length := List.length_pos_iff.2 (ids_ne x)
    rw [idsF_cons, List.length_append, List.length_cons]
    omega

theorem dep_sl {w : World} {g g' : Nat} (hg : Bx w g g') {B : Nat} {A : Option Addr} {n c : Nat} {F : List Nd} {k : Nat} (h : SlN (hidB w g g') B A n c F) (ha : allH k F) (hk : k ≤ 100) (hn : 0 < n) : depW w 1000 (.slice A n c) = k + 1 := by
  have hF := h.1
  obtain ⟨b, o, v, rfl, hb, hv, c1, c2⟩ := h.rangeH hg (i := 0) (by omega)
  obtain ⟨n', rfl⟩ : ∃ n', n = n' + 1 := ⟨n - 1, by omega⟩
  rw [Nat.zero_mul, Nat.add_zero] at c2
  rw [depW, c2, Option.getD_some, dep_hi k 999 _ v (ha _ (List.getElem_mem _)) (NdV.keep (unhid hg) _ _ hv) (by omega)]
  omega

/-- an address that no block below lo has; slices of such -/
def NewA (lo : Nat) (A : Option Addr) : Prop := ∀ ad, A = some ad → lo ≤ ad.block
def NewVs (lo : Nat) (vs : List Value) : Prop := ∀ v ∈ vs, ∀ A n c, v = .slice A n c → NewA lo A
theorem NewA.none (lo : Nat) : NewA lo none := fun ad h => by cases h
theorem NewA.of_own {w : World} {base lo : Nat} {e : TypeId} {size : Nat} {A : Option Addr} {n c : Nat} {xs : List Value} (h : w.ownsRow base e size (.slice A n c) n xs) (hl : lo ≤ base) : NewA lo A := by
  intro ad had
  subst had
  have := own_blockT h ad.block rfl
  omega
theorem NewA.mono {lo lo' : Nat} {A : Option Addr} (h : NewA lo A) (hl : lo' ≤ lo) : NewA lo' A := fun ad had => Nat.le_trans hl (h ad had)
theorem NewVs.nil (lo : Nat) : NewVs lo [] := fun v h => by cases h
theorem NewVs.cons {lo : Nat} {A : Option Addr} {n c : Nat} {vs : List Value} (h : NewA lo A) (hv : NewVs lo vs) : NewVs lo (.slice A n c :: vs) := fun v hm A' n' c' e => by
  rcases List.mem_cons.1 hm with rfl | hm
  · injection e with e1
    subst e1
    exact h
  · exact hv v hm A' n' c' e
/-- a tree's cells, all in blocks from lo on -/
structure ShN (lo : Nat) (w : World) (B : Nat) (Ai : Option Addr) (ni ci : Nat) (Al : Option Addr) (nl cl : Nat) (ids : List Int) (ll : List (List Int)) : Prop where
  sh : ShR w B Ai ni ci Al nl cl ids ll
  hi : NewA lo Ai
  hl : NewA lo Al
  hv : ∃ vs, Rd w B Al nl vs ∧ Lvs w B vs ll ∧ NewVs lo vs
theorem ShN.keep {lo : Nat} {w w' : World} {B B' : Nat} {Ai : Option Addr} {ni ci : Nat} {Al : Option Addr} {nl cl : Nat} {ids : List Int} {ll : List (List Int)} (h : ShN lo w B Ai ni ci Al nl cl ids ll)
    (hk : ∀ (A : Option Addr) (n : Nat) (xs : List Value), NewA lo A → Rd w B A n xs → Rd w' B' A n xs) : ShN lo w' B' Ai ni ci Al nl cl ids ll := by
  obtain ⟨vs, h1, h2, h3⟩ := h.hv
  have hl2 : Lvs w' B' vs ll := ⟨h2.1, fun i v l hv hl => by
    obtain ⟨A, c, e, hc, hm, hr⟩ := h2.2 i v l hv hl
    exact ⟨A, c, e, hc, hm, hk _ _ _ (h3 v (List.mem_of_getElem? hv) A _ _ e) hr⟩⟩
  exact ⟨⟨h.sh.hni, h.sh.hnl, h.sh.hci, h.sh.hcl, h.sh.hmi, h.sh.hml, hk _ _ _ h.hi h.sh.hids, vs, hk _ _ _ h.hl h1, hl2⟩, h.hi, h.hl, vs, hk _ _ _ h.hl h1, hl2, h3⟩
theorem ShN.below {lo : Nat} {w w' : World} {B : Nat} {Ai : Option Addr} {ni ci : Nat} {Al : Option Addr} {nl cl : Nat} {ids : List Int} {ll : List (List Int)} (h : ShN lo w B Ai ni ci Al nl cl ids ll) (hb : Below B w w') : ShN lo w' B Ai ni ci Al nl cl ids ll := h.keep fun _ _ _ _ hr => hr.below hb
theorem ShN.more {lo : Nat} {w : World} {B B' : Nat} {Ai : Option Addr} {ni ci : Nat} {Al : Option Addr} {nl cl : Nat} {ids : List Int} {ll : List (List Int)} (h : ShN lo w B Ai ni ci Al nl cl ids ll) (hb : B ≤ B') : ShN lo w B' Ai ni ci Al nl cl ids ll := h.keep fun _ _ _ _ hr => hr.more hb
theorem ShN.call {lo : Nat} {w w' : World} {Ai : Option Addr} {ni ci : Nat} {Al : Option Addr} {nl cl : Nat} {ids : List Int} {ll : List (List Int)} (h : ShN lo w w.heap.size Ai ni ci Al nl cl ids ll) (hb : Below w.heap.size w w') : ShN lo w' w'.heap.size Ai ni ci Al nl cl ids ll := (h.below hb).more hb.size
theorem Rd.setRowN {w : World} {g lo : Nat} (hg : g < lo) (cs : Array Value) {B n : Nat} {A : Option Addr} {xs : List Value} (h : Rd w B A n xs) (hn : NewA lo A) : Rd (w.setRow g cs) B A n xs := by
  refine ⟨h.len, fun h0 => ?_⟩
  obtain ⟨b, o, h1, h2, h3⟩ := h.pos h0
  refine ⟨b, o, h1, h2, fun j u hu => ?_⟩
  rw [← h3 j u hu]
  exact cell_setRow_other w g cs ⟨b, o + j, Option.none⟩ (show b ≠ g from fun e => by
    have := hn _ h1
    have h4 : lo ≤ b := this
    omega)
/-- a tree in later blocks stays where an earlier box is written -/
theorem ShN.box {lo : Nat} {w : World} {g : Nat} (hg : g < lo) (cs : Array Value) {B : Nat} {Ai : Option Addr} {ni ci : Nat} {Al : Option Addr} {nl cl : Nat} {ids : List Int} {ll : List (List Int)} (h : ShN lo w B Ai ni ci Al nl cl ids ll) : ShN lo (w.setRow g cs) B Ai ni ci Al nl cl ids ll := h.keep fun _ _ _ hn hr => hr.setRowN hg cs hn
theorem ShN.mono {lo lo' : Nat} (hl : lo' ≤ lo) {w : World} {B : Nat} {Ai : Option Addr} {ni ci : Nat} {Al : Option Addr} {nl cl : Nat} {ids : List Int} {ll : List (List Int)} (h : ShN lo w B Ai ni ci Al nl cl ids ll) : ShN lo' w B Ai ni ci Al nl cl ids ll := by
  obtain ⟨vs, h1, h2, h3⟩ := h.hv
  exact ⟨h.sh, h.hi.mono hl, h.hl.mono hl, vs, h1, h2, fun v hv A n c e => (h3 v hv A n c e).mono hl⟩
theorem ShN.nil (lo : Nat) (w : World) (B : Nat) : ShN lo w B Option.none 0 0 Option.none 0 0 [] [] :=
  ⟨⟨rfl, rfl, Nat.le_refl _, Nat.le_refl _, by simp [maxLen], by simp [maxLen], Rd.zero _ _ _, [], Rd.zero _ _ _, Lvs.nil _ _⟩, NewA.none _, NewA.none _, [], Rd.zero _ _ _, Lvs.nil _ _, NewVs.nil _⟩

end Go.Proofs.Ytbickllpledlbaa

