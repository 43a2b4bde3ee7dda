import Derived.Test.YtbiijdboolpaeaaDoorG04
import Derived.Test.YtbiijdboolpaeaaDoorG27
import Derived.Test.YtbiijdboolpaeaaDoorG29
import Derived.Test.YtbiijdboolpaeaaDoorG31
import Derived.Test.YtbiijdboolpaeaaDoorG35
import Derived.Test.YtbiijdboolpaeaaDoorG36
set_option linter.unusedVariables false
namespace Go.Proofs.YtbiijdboolpaeaaDoor
open Go.RowKit
theorem results_cellsK {P : Program} {fn : Func} {p q : Tmp} {ty : TypeId} (h : fn.results = #[.cell p ty, .cell q ty]) (tmps : Array Value) (w : World) (g g' : Nat) (t : TypeId) (cs cs' : Array Value) (d : TypeDesc)
  (hp : tmps.getD p undef = .pointer (some ⟨g, 0, none⟩)) (hg : RowC w g t cs) (hq : tmps.getD q undef = .pointer (some ⟨g', 0, none⟩)) (hg' : RowC w g' t cs')
  (hu : P.underlying ty = some d) (hd : (match d with | .struct _ | .array _ _ => true | _ => false) = true) (hi : (P.info? ty).map (·.size) = some cs.size) (hi' : (P.info? ty).map (·.size) = some cs'.size) :
  (results fn tmps).run P w = .ok (.tuple #[.agg cs, .agg cs']) w := by
 have hp' : tmps[p]?.getD undef = .pointer (some ⟨g, 0, none⟩) := by simpa using hp
 have hq' : tmps[q]?.getD undef = .pointer (some ⟨g', 0, none⟩) := by simpa using hq
 simp [results, h, hp', hq', asAddr, run_loadVar_row w g t ty cs (0, 0) d hg hu hd hi, run_loadVar_row w g' t ty cs' (0, 0) d hg' hu hd hi']
theorem fit_two {label m t : List UInt8} (hl : label.length ≤ 4) (hm : m.length = 32) (ht : t.length = 32) : fitD label [m, t] := by
 have hg : GoodT (nameU :: label :: [m, t]) := by
  intro i x h
  match i, h with
  | 0, h => injection h with h; subst h; decide
  | 1, h => injection h with h; subst h; omega
  | 2, h => injection h with h; subst h; omega
  | 3, h => injection h with h; subst h; omega
  | i + 4, h => simp at h
 refine ⟨hg, ?_⟩
 have := txs_short _ hg
 unfold infoU
 simp only [List.length_cons, List.length_nil] at this
 omega
theorem fit_none {label : List UInt8} (hl : label.length ≤ 4) : fitD label [] := by
 have hg : GoodT (nameU :: label :: []) := by
  intro i x h
  match i, h with
  | 0, h => injection h with h; subst h; decide
  | 1, h => injection h with h; subst h; omega
  | i + 2, h => simp at h
 refine ⟨hg, ?_⟩
 have := txs_short _ hg
 unfold infoU
 simp only [List.length_cons, List.length_nil] at this
 omega
def SharedPost (w : World) (s o m t : List UInt8) (e : Ending) (w' : World) : Prop :=
 Below w.heap.size w w' ∧ ((mltK s o = zeroKey ∧ e = .returned (.tuple #[.agg (keyC zeroKey), .int .i64 1])) ∨
  (mltK s o ≠ zeroKey ∧ e = .returned (.tuple #[.agg (keyC (twoU (mltK s o) m t)), .int .i64 0])))
theorem SharedPost.yes {w w' : World} {s o m t : List UInt8} {e : Ending} (h : SharedPost w s o m t e w') (hn : mltK s o ≠ zeroKey) :
  e = .returned (.tuple #[.agg (keyC (twoU (mltK s o) m t)), .int .i64 0]) ∧ Below w.heap.size w w' := by
 obtain ⟨hb, ⟨h1, _⟩ | ⟨_, h2⟩⟩ := h
 ·
  exact absurd h1 hn
 ·
  exact ⟨h2, hb⟩
theorem SharedPost.no {w w' : World} {s o m t : List UInt8} {e : Ending} (h : SharedPost w s o m t e w') (hn : mltK s o = zeroKey) :
  e = .returned (.tuple #[.agg (keyC zeroKey), .int .i64 1]) ∧ Below w.heap.size w w' := by
 obtain ⟨hb, ⟨_, h2⟩ | ⟨h1, _⟩⟩ := h
 ·
  exact ⟨h2, hb⟩
 ·
  exact absurd hn h1
theorem zeroC : keyC zeroKey = #[.int .u8 0, .int .u8 0, .int .u8 0, .int .u8 0, .int .u8 0, .int .u8 0, .int .u8 0, .int .u8 0, .int .u8 0, .int .u8 0, .int .u8 0, .int .u8 0, .int .u8 0, .int .u8 0, .int .u8 0, .int .u8 0, .int .u8 0, .int .u8 0, .int .u8 0, .int .u8 0, .int .u8 0, .int .u8 0, .int .u8 0, .int .u8 0, .int .u8 0, .int .u8 0, .int .u8 0, .int .u8 0, .int .u8 0, .int .u8 0, .int .u8 0, .int .u8 0] := rfl
def BoxPost (w : World) (p s b : List UInt8) (ts : List (List UInt8)) (e : Ending) (w' : World) : Prop :=
 Below w.heap.size w w' ∧ ((boxBoth p s = zeroKey ∧ e = .returned (.tuple #[.slice none 0 0, .int .i64 1])) ∨
  (boxBoth p s ≠ zeroKey ∧ ¬ (b.length ≤ 1048576 ∧ GoodT ts) ∧ e = .returned (.tuple #[.slice none 0 0, .int .i64 4])) ∨
  (boxBoth p s ≠ zeroKey ∧ b.length ≤ 1048576 ∧ GoodT ts ∧ ∃ A n c, e = .returned (.tuple #[.slice A n c, .int .i64 0]) ∧ NewB w w' A n c (kboxU p s b ts)))
theorem NewB.from {w w1 w' : World} {A : Option Addr} {n c : Nat} {xs : List UInt8} (h : NewB w1 w' A n c xs) (hb : w.heap.size ≤ w1.heap.size) : NewB w w' A n c xs :=
 ⟨h.1, h.2.1, h.2.2.1, fun ad had => ⟨Nat.le_trans hb (h.2.2.2 ad had).1, (h.2.2.2 ad had).2⟩⟩
theorem OpenPost.from {w w1 w' : World} {k b : List UInt8} {ts : List (List UInt8)} {e : Ending} (h : OpenPost w1 k b ts e w') (hb : Below w.heap.size w w1) : OpenPost w k b ts e w' := by
 obtain ⟨h0, h⟩ := h
 refine ⟨c_call hb h0, ?_⟩
 rcases h with h | h | h | ⟨h1, h2, h3, h4, A, n, c, h5, h6⟩
 ·
  exact .inl h
 ·
  exact .inr (.inl h)
 ·
  exact .inr (.inr (.inl h))
 ·
  exact .inr (.inr (.inr ⟨h1, h2, h3, h4, A, n, c, h5, h6.from hb.size⟩))
theorem OpenPost.form {w w' : World} {k b : List UInt8} {ts : List (List UInt8)} {e : Ending} (h : OpenPost w k b ts e w') : ∃ v er, e = .returned (.tuple #[v, .int .i64 er]) := by
 obtain ⟨_, ⟨_, rfl⟩ | ⟨_, _, rfl⟩ | ⟨_, _, _, _, rfl⟩ | ⟨_, _, _, _, A, n, c, rfl, _⟩⟩ := h <;> exact ⟨_, _, rfl⟩
def UnboxPost (w : World) (s b : List UInt8) (ts : List (List UInt8)) (e : Ending) (w' : World) : Prop :=
 Below w.heap.size w w' ∧ ((b.length < 32 ∧ e = .returned (.tuple #[.slice none 0 0, .int .i64 2])) ∨
  (32 ≤ b.length ∧ unBoth s b = zeroKey ∧ e = .returned (.tuple #[.slice none 0 0, .int .i64 1])) ∨
  (32 ≤ b.length ∧ unBoth s b ≠ zeroKey ∧ OpenPost w (unKey s b) (b.drop 32) ts e w'))
noncomputable def sealE (b : List UInt8) (ts : List (List UInt8)) : Int := by
 classical exact if b.length ≤ 1048576 ∧ GoodT ts then 0 else 4
noncomputable def sealX (k b : List UInt8) (ts : List (List UInt8)) : List UInt8 := by
 classical exact if b.length ≤ 1048576 ∧ GoodT ts then sealU k b ts else []
noncomputable def openE (k b : List UInt8) (ts : List (List UInt8)) : Int := by
 classical exact if b.length < 16 then 2 else if ¬ (b.length ≤ 1048592 ∧ GoodT ts) then 4 else if ¬ soundU k b ts then 5 else 0
noncomputable def openX (k b : List UInt8) (ts : List (List UInt8)) : List UInt8 := by
 classical exact if b.length < 16 then [] else if ¬ (b.length ≤ 1048592 ∧ GoodT ts) then [] else if ¬ soundU k b ts then [] else openU k b
theorem NewB.none_ {w w' : World} (hb : Below w.heap.size w w') : NewB w w' none 0 0 [] := ⟨Rd.zero _ _ _, Nat.le_refl _, by simp [maxLen], fun _ h => by cases h⟩
theorem SealPost.get {w w' : World} {k b : List UInt8} {ts : List (List UInt8)} {e : Ending} (h : SealPost w k b ts e w') :
  ∃ A n c, e = .returned (.tuple #[.slice A n c, .int .i64 (sealE b ts)]) ∧ NewB w w' A n c (sealX k b ts) ∧ Below w.heap.size w w' := by
 classical
 by_cases hg : b.length ≤ 1048576 ∧ GoodT ts
 ·
  obtain ⟨A, c, h1, h2, h3⟩ := h.yes hg.1 hg.2
  exact ⟨A, _, c, by rw [h1, sealE, if_pos hg], by rw [sealX, if_pos hg]; exact h2, h3⟩
 ·
  obtain ⟨h1, h2⟩ := h.no hg
  exact ⟨none, 0, 0, by rw [h1, sealE, if_neg hg], by rw [sealX, if_neg hg]; exact NewB.none_ h2, h2⟩
theorem OpenPost.get {w w' : World} {k b : List UInt8} {ts : List (List UInt8)} {e : Ending} (h : OpenPost w k b ts e w') :
  ∃ A n c, e = .returned (.tuple #[.slice A n c, .int .i64 (openE k b ts)]) ∧ NewB w w' A n c (openX k b ts) ∧ Below w.heap.size w w' := by
 classical
 by_cases h0 : b.length < 16
 ·
  obtain ⟨h1, h2⟩ := h.short h0
  exact ⟨none, 0, 0, by rw [h1, openE, if_pos h0], by rw [openX, if_pos h0]; exact NewB.none_ h2, h2⟩
 ·
  by_cases hg : b.length ≤ 1048592 ∧ GoodT ts
  ·
   by_cases hs : soundU k b ts
   ·
    obtain ⟨A, c, h1, h2, h3⟩ := h.yes (by omega) hg.1 hg.2 hs
    exact ⟨A, _, c, by rw [h1, openE, if_neg h0, if_neg (not_not_intro hg), if_neg (not_not_intro hs)], by rw [openX, if_neg h0, if_neg (not_not_intro hg), if_neg (not_not_intro hs)]; exact h2, h3⟩
   ·
    obtain ⟨h1, h2⟩ := h.bad (by omega) hg.1 hg.2 hs
    exact ⟨none, 0, 0, by rw [h1, openE, if_neg h0, if_neg (not_not_intro hg), if_pos hs], by rw [openX, if_neg h0, if_neg (not_not_intro hg), if_pos hs]; exact NewB.none_ h2, h2⟩
  ·
   obtain ⟨h1, h2⟩ := h.long (by omega) hg
   exact ⟨none, 0, 0, by rw [h1, openE, if_neg h0, if_pos hg], by rw [openX, if_neg h0, if_pos hg]; exact NewB.none_ h2, h2⟩
end Go.Proofs.YtbiijdboolpaeaaDoor
