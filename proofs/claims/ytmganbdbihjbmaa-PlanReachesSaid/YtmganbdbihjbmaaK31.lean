import Derived.Test.YtmganbdbihjbmaaK04
/-
  PLANS AS THEY ARE TOLD (layer 12), read from memory: api.Step is three cells, api.Plan two.
-/
set_option linter.unusedVariables false
namespace Go.Proofs.Ytmganbdbihjbmaa
open Go.RowKit

/-- a step as it is read: any numbers -/
structure SI where
  node : Int
  from_ : Int
  send : List Int
deriving DecidableEq
def siC (x : SI) (u : Value) : List Value := [.int .i64 x.node, .int .i64 x.from_, u]
/-- a slice of steps is read, and what each sends to -/
structure StR (w : World) (B : Nat) (A : Option Addr) (n c : Nat) (ss : List SI) : Prop where
  len : ss.length = n
  cap : n ≤ c ∧ c ≤ maxLen
  told : ∀ (k : Nat) (x : SI), ss[k]? = some x → ∃ b o Au cu, A = some ⟨b, o, none⟩ ∧ b < B ∧ w.rangeAt b (o + k * 3) (siC x (.slice Au x.send.length cu)) ∧ x.send.length ≤ cu ∧ cu ≤ maxLen ∧ Rd w B Au x.send.length (x.send.map iv)
theorem StR.below {w w' : World} {B : Nat} {A : Option Addr} {n c : Nat} {ss : List SI} (h : StR w B A n c ss) (hb : Below B w w') : StR w' B A n c ss :=
  ⟨h.len, h.cap, fun k x hx => by
    obtain ⟨b, o, Au, cu, e, h1, h2, h3, h4, h5⟩ := h.told k x hx
    exact ⟨b, o, Au, cu, e, h1, fun j v hv => by rw [hb.cell (p := ⟨b, o + k * 3 + j, none⟩) h1]; exact h2 j v hv, h3, h4, h5.below hb⟩⟩
theorem StR.more {w : World} {B B' : Nat} {A : Option Addr} {n c : Nat} {ss : List SI} (h : StR w B A n c ss) (hb : B ≤ B') : StR w B' A n c ss :=
  ⟨h.len, h.cap, fun k x hx => by
    obtain ⟨b, o, Au, cu, e, h1, h2, h3, h4, h5⟩ := h.told k x hx
    exact ⟨b, o, Au, cu, e, by omega, h2, h3, h4, h5.more hb⟩⟩
theorem StR.zero (w : World) (B : Nat) : StR w B none 0 0 [] := ⟨rfl, ⟨Nat.le_refl _, by simp [maxLen]⟩, fun k x h => by simp at h⟩
/-- a plan's two cells -/
def plV (Ak : Option Addr) (nk ck : Nat) (As : Option Addr) (ns cs : Nat) : Array Value := #[.slice Ak nk ck, .slice As ns cs]
structure PlR (w : World) (B : Nat) (Ak : Option Addr) (nk ck : Nat) (As : Option Addr) (ns cs : Nat) (ks : List Int) (ss : List SI) : Prop where
  kcap : nk ≤ ck ∧ ck ≤ maxLen
  keep : Rd w B Ak nk (ks.map iv)
  steps : StR w B As ns cs ss
theorem PlR.below {w w' : World} {B : Nat} {Ak : Option Addr} {nk ck : Nat} {As : Option Addr} {ns cs : Nat} {ks : List Int} {ss : List SI} (h : PlR w B Ak nk ck As ns cs ks ss) (hb : Below B w w') : PlR w' B Ak nk ck As ns cs ks ss := ⟨h.kcap, h.keep.below hb, h.steps.below hb⟩
theorem PlR.more {w : World} {B B' : Nat} {Ak : Option Addr} {nk ck : Nat} {As : Option Addr} {ns cs : Nat} {ks : List Int} {ss : List SI} (h : PlR w B Ak nk ck As ns cs ks ss) (hb : B ≤ B') : PlR w B' Ak nk ck As ns cs ks ss := ⟨h.kcap, h.keep.more hb, h.steps.more hb⟩
/-- how many are sent to -/
def sendsT (ss : List SI) : Nat := (ss.map fun x => x.send.length).sum
theorem sends_take {ss : List SI} {j : Nat} {x : SI} (hx : ss[j]? = some x) : sendsT (ss.take (j + 1)) = sendsT (ss.take j) + x.send.length := by
  obtain ⟨hj, e⟩ := List.getElem?_eq_some_iff.1 hx
  rw [sendsT, List.take_succ_eq_append_getElem hj, List.map_append, List.sum_append, ← sendsT, e]
  simp

end Go.Proofs.Ytmganbdbihjbmaa

