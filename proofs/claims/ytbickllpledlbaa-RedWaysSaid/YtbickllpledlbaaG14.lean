import Derived.Test.YtbickllpledlbaaG11
import Derived.Test.YtbickllpledlbaaG13
/-
  CONTRACT of the document's first (coterieref10).
-/
set_option linter.unusedVariables false
namespace Go.Proofs.Ytbickllpledlbaa
open Go.RowKit

/-- how deep what a value has below is, in memory -/
def depW (w : World) : Nat → Value → Nat
  | 0, _ => 0
  | k + 1, .slice (some a) (n + 1) _ => 1 + depW w k ((w.cell? ⟨a.block, a.off + 1, none⟩).getD undef)
  | _, _ => 0
theorem dep_hi {w : World} {B : Nat} : ∀ (h k : Nat) (x : Nd) (v : Value), Nd.hi h x → NdV w B x v → h < k → depW w k v = h
  | 0, k + 1, x, v, hx, hv, hk => by
    obtain ⟨i, rfl⟩ := hi_zero hx
    rw [show v = .slice none 0 0 from hv]
    rfl
  | h + 1, k + 1, x, v, hx, hv, hk => by
    obtain ⟨A, c, rfl, hs⟩ := hv.kids
    obtain ⟨h1, h2, _, _⟩ := hi_succ hx
    obtain ⟨b, o, u, rfl, hb, hu, c1, c2⟩ := hs.get (i := 0) (by omega)
    obtain ⟨n, hn⟩ : ∃ n, x.kids.length = n + 1 := ⟨x.kids.length - 1, by omega⟩
    rw [hn, depW]
    rw [show o + 2 * 0 + 1 = o + 1 by omega] at c2
    rw [c2, Option.getD_some, dep_hi h k _ u (h2 _ (List.getElem_mem (by omega))) hu (by omega)]
    omega
theorem first_kid0 {h : Nat} {x : Nd} (hx : Nd.hi (h + 1) x) (h0 : 0 < x.kids.length) : x.kids[0].first = x.first := by
  match hk : x.kids, h0 with
  | y :: s, _ => exact first_kid hx hk

end Go.Proofs.Ytbickllpledlbaa

