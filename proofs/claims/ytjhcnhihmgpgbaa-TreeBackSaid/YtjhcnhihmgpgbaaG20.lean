import Derived.Test.YtjhcnhihmgpgbaaG17
/-
  CONTRACT of the document's with (coterieref10).
-/
set_option linter.unusedVariables false
namespace Go.Proofs.Ytjhcnhihmgpgbaa
open Go.RowKit

/-- what putting a member into a node answers -/
def WithC (h : Nat) : Prop := ∀ (x : Nd) (v : Value) (id : Int) (gs : List Nat) (w : World), Nd.hi h x → Cells gs w → NdV (vw gs w) w.heap.size x v →
  Calls Try.prog 35 #[.agg #[iv x.id, v], .int .i64 id] w fun e w' => Below w.heap.size w w' ∧ ∃ A n c, e = .returned (.slice A n c) ∧ SlN (vw gs w') w'.heap.size A n c (withN x id)

set_option maxRecDepth 100000 in
set_option maxHeartbeats 8000000 in
theorem with_zero : WithC 0 := by
  intro x v id gs w hx hcl hv
  obtain ⟨i, rfl⟩ := hi_zero hx
  have hv0 : v = .slice none 0 0 := hv
  subst hv0
  rw [show iv (Nd.id (.leaf i)) = .int .i64 i from rfl]
  go_enter Try.func35, Try.ntmps35
  by_cases hi : id < i
  · go_wp2_with fail
    go_ret
    have hB := ((Below.refl w.heap.size w).alloc (Nat.le_refl _) (.cells #[.int .i64 i, .slice none 0 0] 56)).alloc (by simp) (.cells (if id < i then #[.int .i64 id, .slice none 0 0, .int .i64 i, .slice none 0 0] else #[.int .i64 i, .slice none 0 0, .int .i64 id, .slice none 0 0]) 56)
    rw [if_pos hi] at hB
    refine ⟨hB, _, 2, 2, rfl, ?_⟩
    rw [withN, if_pos hi]
    exact ⟨rfl, Nat.le_refl _, by simp [maxLen], [nilV, nilV], ⟨rfl, rfl, trivial⟩, vw_new (hcl.below hB) (lo := w.heap.size) (Rd.mk_ _ _ _ (by simp) (by simp) rfl rfl) (fun ad had => by injection had with had; subst had; simp) hcl.lt⟩
  · go_wp2_with fail
    go_ret
    have hB := ((Below.refl w.heap.size w).alloc (Nat.le_refl _) (.cells #[.int .i64 i, .slice none 0 0] 56)).alloc (by simp) (.cells (if id < i then #[.int .i64 id, .slice none 0 0, .int .i64 i, .slice none 0 0] else #[.int .i64 i, .slice none 0 0, .int .i64 id, .slice none 0 0]) 56)
    rw [if_neg (by omega)] at hB
    refine ⟨hB, _, 2, 2, rfl, ?_⟩
    rw [withN, if_neg (by omega)]
    exact ⟨rfl, Nat.le_refl _, by simp [maxLen], [nilV, nilV], ⟨rfl, rfl, trivial⟩, vw_new (hcl.below hB) (lo := w.heap.size) (Rd.mk_ _ _ _ (by simp) (by simp) rfl rfl) (fun ad had => by injection had with had; subst had; simp) hcl.lt⟩

theorem joinN_len (l m r : List Nd) : (joinN l m r).length = 1 ∨ (joinN l m r).length = 2 := by
  unfold joinN
  split
  · exact .inr rfl
  · exact .inl rfl
theorem withN_len (x : Nd) (id : Int) : (withN x id).length = 1 ∨ (withN x id).length = 2 := by
  cases x with
  | leaf i => rw [withN]; split <;> exact .inr rfl
  | one a => rw [withN]; exact joinN_len _ _ _
  | two a b => rw [withN]; split <;> exact joinN_len _ _ _
  | three a b c => rw [withN]; split; exact joinN_len _ _ _; split <;> exact joinN_len _ _ _

end Go.Proofs.Ytjhcnhihmgpgbaa

