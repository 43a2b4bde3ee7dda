import Derived.Test.YtbiijdboolpaeaaDoorG32
import Derived.Test.YtbiijdboolpaeaaDoorG34
import Derived.Test.YtbiijdboolpaeaaDoorG12
import Derived.Test.YtbiijdboolpaeaaDoorG03
import Derived.StillTailTactics
import Derived.Test.YtbiijdboolpaeaaDoorG29
import Derived.Test.YtbiijdboolpaeaaDoorG30
import Derived.Lib.SmallJoins
set_option linter.unusedVariables false
namespace Go.Proofs.YtbiijdboolpaeaaDoor
open Go.RowKit
structure Cst (w wr : World) (k n b : List UInt8) (A : Option Addr) (m : Nat) : Prop where
 key : ArrB wr w.heap.size 69 k
 non : ArrB wr (w.heap.size + 1) 71 n
 txt : Rd wr w.heap.size A m (b.map bv)
 bel : Below w.heap.size w wr
section
variable {w wr w' : World} {k n b : List UInt8} {A : Option Addr} {m : Nat}
theorem Cst.size (h : Cst w wr k n b A m) : w.heap.size + 2 ≤ wr.heap.size := h.non.lt
theorem Cst.call (h : Cst w wr k n b A m) (hb : Below wr.heap.size wr w') : Cst w w' k n b A m :=
 ⟨h.key.below hb h.key.lt, h.non.below hb h.non.lt, h.txt.below (hb.mono h.bel.size), h.bel.trans (hb.mono h.bel.size)⟩
theorem Cst.alloc (h : Cst w wr k n b A m) (o : Obj) : Cst w (wr.alloc o) k n b A m := h.call (c_alloc (c_refl _) o)
theorem Cst.drew (h : Cst w wr k n b A m) : Cst w wr.drew k n b A m := h.call (c_drew (c_refl _))
theorem Cst.setCell (h : Cst w wr k n b A m) {p : Addr} (hp : w.heap.size + 2 ≤ p.block) (u : Value) : Cst w (wr.setCell p u) k n b A m :=
 ⟨h.key.far (by omega) u, h.non.far (by omega) u, h.txt.setCell (by omega) u, h.bel.setCell (by omega) u⟩
theorem Cst.row (h : Cst w wr k n b A m) {g : Nat} (hg : w.heap.size + 2 ≤ g) (cs : Array Value) : Cst w (wr.setRow g cs) k n b A m :=
 ⟨h.key.rowFar (by omega) cs, h.non.rowFar (by omega) cs, h.txt.below (below_setRow (Below.refl _ _) (by omega) cs), below_setRow h.bel (by omega) cs⟩
theorem Cst.grown (h : Cst w wr k n b A m) {row : Option Nat} (hg : wr.grownBy w' row) (hr : ∀ g, row = some g → w.heap.size + 2 ≤ g) : Cst w w' k n b A m :=
 ⟨h.key.of (hg.block _ h.key.lt (fun e => by have := hr _ e.symm; omega)), h.non.of (hg.block _ h.non.lt (fun e => by have := hr _ e.symm; omega)),
  h.txt.grown hg h.bel.size (fun g e => by have := hr _ e; omega), h.bel.grown hg h.bel.size (fun g e => by have := hr _ e; omega)⟩
end
theorem infoBk : (Tryd.prog.info? 69).map (·.size) = some 16 := by kernel_rfl
theorem infoNc : (Tryd.prog.info? 71).map (·.size) = some 12 := by kernel_rfl
theorem two_flat (a b : List UInt8) : [a, b].flatten = a ++ b := by simp
def TagPost (w : World) (k hidden : List UInt8) (ts : List (List UInt8)) (e : Ending) (w' : World) : Prop :=
 Below w.heap.size w w' ∧ ((GoodT ts ∧ ∃ g c, w.heap.size ≤ g ∧ 16 ≤ c ∧ e = .returned (.tuple #[.slice (some ⟨g, 0, none⟩) 16 c, .bool true]) ∧ Rd w' w'.heap.size (some ⟨g, 0, none⟩) 16 ((tagU k hidden ts).map bv)) ∨
  (¬ GoodT ts ∧ e = .returned (.tuple #[.slice none 0 0, .bool false])))
theorem TagPost.yes {w w' : World} {k hidden : List UInt8} {ts : List (List UInt8)} {e : Ending} (h : TagPost w k hidden ts e w') (hg : GoodT ts) :
  ∃ g c, w.heap.size ≤ g ∧ 16 ≤ c ∧ e = .returned (.tuple #[.slice (some ⟨g, 0, none⟩) 16 c, .bool true]) ∧ Rd w' w'.heap.size (some ⟨g, 0, none⟩) 16 ((tagU k hidden ts).map bv) ∧ Below w.heap.size w w' := by
 obtain ⟨hb, ⟨_, g, c, h1, h2, h3, h4⟩ | ⟨h1, _⟩⟩ := h
 ·
  exact ⟨g, c, h1, h2, h3, h4, hb⟩
 ·
  exact absurd hg h1
theorem TagPost.no {w w' : World} {k hidden : List UInt8} {ts : List (List UInt8)} {e : Ending} (h : TagPost w k hidden ts e w') (hg : ¬ GoodT ts) :
  e = .returned (.tuple #[.slice none 0 0, .bool false]) ∧ Below w.heap.size w w' := by
 obtain ⟨hb, ⟨h1, _⟩ | ⟨_, h2⟩⟩ := h
 ·
  exact absurd h1 hg
 ·
  exact ⟨h2, hb⟩
theorem own_cap {w : World} {base n c : Nat} {e : TypeId} {A : Option Addr} {xs : List Value} (h : w.ownsRow base e 1 (.slice A n c) n xs) : n ≤ c := by
 obtain ⟨A', c', h1, h2, _⟩ := own_form h
 injection h1 with _ _ h3
 omega
def NewB (w w' : World) (A : Option Addr) (n c : Nat) (xs : List UInt8) : Prop :=
 Rd w' w'.heap.size A n (xs.map bv) ∧ n ≤ c ∧ c ≤ maxLen ∧ ∀ ad, A = some ad → w.heap.size ≤ ad.block ∧ ∀ j, w'.frozen? ⟨ad.block, j, none⟩ = false
theorem NewB.of_own {w w' : World} {base n c : Nat} {A : Option Addr} {xs : List UInt8} (h : w'.ownsRow base 5 1 (.slice A n c) n (xs.map bv)) (hb : w.heap.size ≤ base) : NewB w w' A n c xs := by
 refine ⟨Rd.of_own h, own_cap h, ?_, fun ad had => ?_⟩
 ·
  rcases h.2 with ⟨h1, h2⟩ | ⟨g, cap, cur, h1, _, _, _, h2, _⟩
  ·
   injection h1 with _ _ h3
   subst h3
   exact Nat.zero_le _
  ·
   injection h1 with _ _ h3
   subst h3
   exact h2
 ·
  rcases h.2 with ⟨h1, _⟩ | ⟨g, cap, cur, h1, h2, h3, _⟩
  ·
   injection h1 with h3
   rw [h3] at had
   cases had
  ·
   injection h1 with h4
   rw [h4] at had
   injection had with had
   subst had
   exact ⟨Nat.le_trans hb h2, fun j => frozen_of_row w' g j _ _ h3⟩
def SealPost (w : World) (k b : List UInt8) (ts : List (List UInt8)) (e : Ending) (w' : World) : Prop :=
 Below w.heap.size w w' ∧ ((b.length ≤ 1048576 ∧ GoodT ts ∧ ∃ A n c, e = .returned (.tuple #[.slice A n c, .int .i64 0]) ∧ NewB w w' A n c (sealU k b ts)) ∨
  (¬ (b.length ≤ 1048576 ∧ GoodT ts) ∧ e = .returned (.tuple #[.slice none 0 0, .int .i64 4])))
def OpenPost (w : World) (k b : List UInt8) (ts : List (List UInt8)) (e : Ending) (w' : World) : Prop :=
 Below w.heap.size w w' ∧ ((b.length < 16 ∧ e = .returned (.tuple #[.slice none 0 0, .int .i64 2])) ∨
  (16 ≤ b.length ∧ ¬ (b.length ≤ 1048592 ∧ GoodT ts) ∧ e = .returned (.tuple #[.slice none 0 0, .int .i64 4])) ∨
  (16 ≤ b.length ∧ b.length ≤ 1048592 ∧ GoodT ts ∧ ¬ soundU k b ts ∧ e = .returned (.tuple #[.slice none 0 0, .int .i64 5])) ∨
  (16 ≤ b.length ∧ b.length ≤ 1048592 ∧ GoodT ts ∧ soundU k b ts ∧ ∃ A n c, e = .returned (.tuple #[.slice A n c, .int .i64 0]) ∧ NewB w w' A n c (openU k b)))
theorem SealPost.yes {w w' : World} {k b : List UInt8} {ts : List (List UInt8)} {e : Ending} (h : SealPost w k b ts e w') (hl : b.length ≤ 1048576) (hg : GoodT ts) :
  ∃ A c, e = .returned (.tuple #[.slice A (b.length + 16) c, .int .i64 0]) ∧ NewB w w' A (b.length + 16) c (sealU k b ts) ∧ Below w.heap.size w w' := by
 obtain ⟨hb, ⟨_, _, A, n, c, rfl, hn⟩ | ⟨h1, _⟩⟩ := h
 ·
  have hl2 : n = b.length + 16 := by
   have := hn.1.len
   rw [List.length_map, sealU_len] at this
   omega
  subst hl2
  exact ⟨A, c, rfl, hn, hb⟩
 ·
  exact absurd ⟨hl, hg⟩ h1
theorem SealPost.no {w w' : World} {k b : List UInt8} {ts : List (List UInt8)} {e : Ending} (h : SealPost w k b ts e w') (hn : ¬ (b.length ≤ 1048576 ∧ GoodT ts)) :
  e = .returned (.tuple #[.slice none 0 0, .int .i64 4]) ∧ Below w.heap.size w w' := by
 obtain ⟨hb, ⟨h1, h2, _⟩ | ⟨_, h2⟩⟩ := h
 ·
  exact absurd ⟨h1, h2⟩ hn
 ·
  exact ⟨h2, hb⟩
theorem OpenPost.yes {w w' : World} {k b : List UInt8} {ts : List (List UInt8)} {e : Ending} (h : OpenPost w k b ts e w') (h16 : 16 ≤ b.length) (hl : b.length ≤ 1048592) (hg : GoodT ts) (hs : soundU k b ts) :
  ∃ A c, e = .returned (.tuple #[.slice A (b.length - 16) c, .int .i64 0]) ∧ NewB w w' A (b.length - 16) c (openU k b) ∧ Below w.heap.size w w' := by
 obtain ⟨hb, ⟨h1, _⟩ | ⟨_, h1, _⟩ | ⟨_, _, _, h1, _⟩ | ⟨_, _, _, _, A, n, c, rfl, hn⟩⟩ := h
 ·
  omega
 ·
  exact absurd ⟨hl, hg⟩ h1
 ·
  exact absurd hs h1
 ·
  have hl2 : n = b.length - 16 := by
   have := hn.1.len
   rw [List.length_map, openU_len] at this
   omega
  subst hl2
  exact ⟨A, c, rfl, hn, hb⟩
theorem OpenPost.bad {w w' : World} {k b : List UInt8} {ts : List (List UInt8)} {e : Ending} (h : OpenPost w k b ts e w') (h16 : 16 ≤ b.length) (hl : b.length ≤ 1048592) (hg : GoodT ts) (hs : ¬ soundU k b ts) :
  e = .returned (.tuple #[.slice none 0 0, .int .i64 5]) ∧ Below w.heap.size w w' := by
 obtain ⟨hb, ⟨h1, _⟩ | ⟨_, h1, _⟩ | ⟨_, _, _, _, h1⟩ | ⟨_, _, _, h1, _⟩⟩ := h
 ·
  omega
 ·
  exact absurd ⟨hl, hg⟩ h1
 ·
  exact ⟨h1, hb⟩
 ·
  exact absurd h1 hs
theorem OpenPost.short {w w' : World} {k b : List UInt8} {ts : List (List UInt8)} {e : Ending} (h : OpenPost w k b ts e w') (h16 : b.length < 16) :
  e = .returned (.tuple #[.slice none 0 0, .int .i64 2]) ∧ Below w.heap.size w w' := by
 obtain ⟨hb, ⟨_, h1⟩ | ⟨h1, _⟩ | ⟨h1, _⟩ | ⟨h1, _⟩⟩ := h
 ·
  exact ⟨h1, hb⟩
 ·
  omega
 ·
  omega
 ·
  omega
theorem OpenPost.long {w w' : World} {k b : List UInt8} {ts : List (List UInt8)} {e : Ending} (h : OpenPost w k b ts e w') (h16 : 16 ≤ b.length) (hn : ¬ (b.length ≤ 1048592 ∧ GoodT ts)) :
  e = .returned (.tuple #[.slice none 0 0, .int .i64 4]) ∧ Below w.heap.size w w' := by
 obtain ⟨hb, ⟨h1, _⟩ | ⟨_, _, h1⟩ | ⟨_, h1, h2, _⟩ | ⟨_, h1, h2, _⟩⟩ := h
 ·
  omega
 ·
  exact ⟨h1, hb⟩
 ·
  exact absurd ⟨h1, h2⟩ hn
 ·
  exact absurd ⟨h1, h2⟩ hn
end Go.Proofs.YtbiijdboolpaeaaDoor
