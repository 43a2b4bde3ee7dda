import Derived.Test.YtmganbdbihjbmaaK01
import Derived.Test.YtmganbdbihjbmaaK11
import Derived.WalkSpells
/-
  CONTRACTS of the document's own small functions of layer 1 that later layers use too: Copy, Bytes, Same.
-/
set_option linter.unusedVariables false
namespace Go.Proofs.Ytmganbdbihjbmaa
open Go.RowKit

def sameB (l l' : List UInt8) : Bool := l == l'
theorem sameB_refl (l : List UInt8) : sameB l l = true := by simp [sameB]

/-- texts in a list: each head reads its text -/
def Txs (w : World) (B : Nat) (vs : List Value) (ts : List (List UInt8)) : Prop :=
  vs.length = ts.length ∧ ∀ (i : Nat) (v : Value) (t : List UInt8), vs[i]? = some v → ts[i]? = some t → ∃ A c, v = .slice A t.length c ∧ t.length ≤ c ∧ Rd w B A t.length (t.map bv)

theorem Txs.below {w w' : World} {B : Nat} {vs : List Value} {ts : List (List UInt8)} (h : Txs w B vs ts) (hb : Below B w w') : Txs w' B vs ts :=
  ⟨h.1, fun i v t hv ht => by
    obtain ⟨A, c, e, hc, hr⟩ := h.2 i v t hv ht
    exact ⟨A, c, e, hc, hr.below hb⟩⟩
theorem Txs.more {w : World} {B B' : Nat} {vs : List Value} {ts : List (List UInt8)} (h : Txs w B vs ts) (hb : B ≤ B') : Txs w B' vs ts :=
  ⟨h.1, fun i v t hv ht => by
    obtain ⟨A, c, e, hc, hr⟩ := h.2 i v t hv ht
    exact ⟨A, c, e, hc, hr.more hb⟩⟩

theorem Txs.nil (w : World) (B : Nat) : Txs w B [] [] := ⟨rfl, fun i v t h => by simp at h⟩
theorem Txs.one {w : World} {B : Nat} {A : Option Addr} {c : Nat} {t : List UInt8} (hr : Rd w B A t.length (t.map bv)) (hc : t.length ≤ c) : Txs w B [.slice A t.length c] [t] :=
  ⟨rfl, fun i v u hv hu => by
    rcases i with _ | i
    · simp at hv hu; subst hv hu; exact ⟨A, c, rfl, hc, hr⟩
    · simp at hv⟩

end Go.Proofs.Ytmganbdbihjbmaa

