import Derived.Test.YtmganbdbihjbmaaK06
/-
  CONTRACT of the document's Spans (coterieref10).
-/
set_option linter.unusedVariables false
namespace Go.Proofs.Ytmganbdbihjbmaa
open Go.RowKit

/-- where the groups of a level begin, and how many leaves there are -/
def scanTo (w : List Nat) (x : Nat) : List Nat := (List.range (x + 1)).map (startT w)
def scanT (w : List Nat) : List Nat := scanTo w w.length
def spansL (many : Nat) (lv : List (List Nat)) (k : Nat) : List Nat := scanT (wideL (List.replicate many 1) (lv.take (k + 1)))
def spansOk (ids : List Int) (ll : List (List Int)) (level : Int) : Prop := chkT ids ll = true ∧ 0 ≤ level ∧ level < ll.length
def ivn (n : Nat) : Value := iv (n : Int)
/-- what a tree's spans answer -/
def SpansPost (w : World) (ids : List Int) (ll : List (List Int)) (level : Int) (e : Ending) (w' : World) : Prop :=
  Below w.heap.size w w' ∧ ((¬ spansOk ids ll level ∧ e = .returned (.tuple #[.slice none 0 0, .int .i64 1])) ∨
    (spansOk ids ll level ∧ ∃ A n c, e = .returned (.tuple #[.slice A n c, .int .i64 0]) ∧ n ≤ c ∧ c ≤ maxLen ∧ Rd w' w'.heap.size A n ((spansL ids.length (lvN ll) level.toNat).map ivn)))
theorem wideL_snoc : ∀ (lv : List (List Nat)) (w l : List Nat), wideL w (lv ++ [l]) = chunkT l (wideL w lv)
  | [], w, l => rfl
  | x :: lv, w, l => by rw [List.cons_append, wideL, wideL_snoc lv]; rfl
theorem one_ivN (l : List Nat) : ∀ u ∈ l.map ivn, u.oneCell' = true := one_ivn l
/-- so far a level's sums -/
theorem chunk_part : ∀ (l w : List Nat) (k : Nat) (hk : k < l.length), chunkT (l.take (k + 1)) w = chunkT (l.take k) w ++ [((w.drop (startT l k)).take l[k]).sum]
  | [], w, k, hk => by simp at hk
  | n :: l, w, 0, hk => by simp [chunkT, startT]
  | n :: l, w, k + 1, hk => by
    rw [List.take_succ_cons, List.take_succ_cons, chunkT, chunkT, chunk_part l (w.drop n) k (by simpa using hk), startT_cons, List.drop_drop, List.getElem_cons_succ]
    rfl
theorem take_le_sum (w : List Nat) (k : Nat) : (w.take k).sum ≤ w.sum := startT_le w k
theorem drop_take_sum (w : List Nat) (a n : Nat) : ((w.drop a).take n).sum ≤ w.sum := by
  have h1 := startT_le (w.drop a) n
  have h2 : (w.take a ++ w.drop a).sum = w.sum := by rw [List.take_append_drop]
  rw [List.sum_append] at h2
  unfold startT at h1
  omega

end Go.Proofs.Ytmganbdbihjbmaa

