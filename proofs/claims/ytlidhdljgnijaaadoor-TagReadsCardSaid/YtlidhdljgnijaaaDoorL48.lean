import Derived.Test.YtlidhdljgnijaaaDoorL17
import Derived.ProofKit
import Derived.OpenShut
import Derived.ChangeOld
import Derived.Deep.Slices
import Derived.SizedLaws
/-
  OPENING a law's arguments: bytes, numbers, texts that came in read as lists.
-/
set_option linter.unusedVariables false
namespace Go.Proofs.YtlidhdljgnijaaaDoor
open Go.ChangeShapes Go.WideShapes Go.ChangeAt Go.RowKit Go.Deep

theorem own : ownKnob Tryd.prog.godebug = none := by kernel_rfl
theorem laidOut : laidOutB Tryd.prog = true := by kernel_rfl
theorem cellsByte : Tryd.prog.cellsOf 5 = 1 := by kernel_rfl
theorem cellsText : Tryd.prog.cellsOf 41 = 1 := by kernel_rfl

section
variable {H : Type} {enc : TypeId × Value → H} {w : World} {base : Nat} {spare : Nat → Bool} {held : Bool} {fuel : Nat} {A : Option Addr} {n c : Nat} {x : DataW H × List MemPlace}

/-- a slice of integers of a kind that came in -/
theorem open_nums {t e : TypeId} {k : IntKind} (ht : Tryd.prog.underlying t = some (.slice e)) (he : Tryd.prog.underlying e = some (.int k)) (hc : Tryd.prog.cellsOf e = 1) (hs : ∀ b, spare b = true)
    (h : DataW.trod enc Tryd.prog w base spare held fuel t [.slice A n c] = some x) :
    n ≤ c ∧ c ≤ maxLen ∧ ∃ zs : List Int, (∀ z ∈ zs, (Lit.int k z).wf = true) ∧ Rd w w.heap.size A n (zs.map (Value.int k)) := by
  rcases open_ints ht he hc h with ⟨hcs, _⟩ | ⟨ad, l, cap, zs, hcs, _, hl, hm, hz, _, hcell, hwz⟩
  · simp at hcs
    obtain ⟨rfl, rfl, rfl⟩ := hcs
    exact ⟨by omega, by simp [maxLen], [], by simp, Rd.zero _ _ _⟩
  · simp at hcs
    obtain ⟨rfl, rfl, rfl⟩ := hcs
    rw [hs ad.block, if_pos rfl] at hz
    refine ⟨hl, hm, zs.take n, fun z hz' => hwz z (List.mem_of_mem_take hz'), ?_, fun hn => ?_⟩
    · rw [List.length_map, List.length_take]; omega
    · obtain ⟨b, o, sp⟩ := ad
      have h0 := hcell 0 (by omega)
      obtain rfl : sp = none := by simpa [Addr.add] using World.cell?_spot h0
      refine ⟨b, o, rfl, World.block_lt_of_cell? w _ (by simpa [Addr.add] using h0), fun j u hu => ?_⟩
      have hj : j < zs.length := by
        have := (List.getElem?_eq_some_iff.1 hu).1
        rw [List.length_map, List.length_take] at this
        omega
      have hj2 : j < n := by
        have := (List.getElem?_eq_some_iff.1 hu).1
        rw [List.length_map, List.length_take] at this
        omega
      have h1 := hcell j hj
      rw [Addr.add_lit] at h1
      rw [h1]
      rw [List.getElem?_map, List.getElem?_take, if_pos hj2, List.getElem?_eq_getElem hj] at hu
      simp only [Option.map_some, Option.some.injEq] at hu
      rw [← hu, List.getD_eq_getElem?_getD, List.getElem?_eq_getElem hj]
      rfl

theorem bytes_of (zs : List Int) (h : ∀ z ∈ zs, (Lit.int .u8 z).wf = true) : ∃ l : List UInt8, zs.map (Value.int .u8) = l.map bv := by
  refine ⟨zs.map fun z => UInt8.ofNat z.toNat, ?_⟩
  rw [List.map_map]
  refine List.map_congr_left fun z hz => ?_
  have hb : 0 ≤ z ∧ z ≤ 255 := by simpa [Lit.wf, IntKind.min, IntKind.max, IntKind.signed, IntKind.bits] using h z hz
  show Value.int .u8 z = .int .u8 ((UInt8.ofNat z.toNat).toNat : Int)
  rw [UInt8.toNat_ofNat', Nat.mod_eq_of_lt (by omega), Int.toNat_of_nonneg hb.1]

theorem quads_of (zs : List Int) (h : ∀ z ∈ zs, (Lit.int .u64 z).wf = true) : ∃ l : List Nat, zs.map (Value.int .u64) = l.map qv ∧ ∀ i x : Nat, l[i]? = some x → x < 18446744073709551616 := by
  refine ⟨zs.map fun z => z.toNat, ?_, ?_⟩
  · rw [List.map_map]
    refine List.map_congr_left fun z hz => ?_
    have hb : 0 ≤ z ∧ z ≤ 18446744073709551615 := by simpa [Lit.wf, IntKind.min, IntKind.max, IntKind.signed, IntKind.bits] using h z hz
    show Value.int .u64 z = .int .u64 (z.toNat : Int)
    rw [Int.toNat_of_nonneg hb.1]
  · intro i x hx
    rw [List.getElem?_map] at hx
    obtain ⟨z, hz, rfl⟩ := Option.map_eq_some_iff.1 hx
    have hb : 0 ≤ z ∧ z ≤ 18446744073709551615 := by simpa [Lit.wf, IntKind.min, IntKind.max, IntKind.signed, IntKind.bits] using h z (List.mem_of_getElem? hz)
    omega

theorem open_bytes (hs : ∀ b, spare b = true) (h : DataW.trod enc Tryd.prog w base spare held fuel 41 [.slice A n c] = some x) :
    n ≤ c ∧ c ≤ maxLen ∧ ∃ l : List UInt8, Rd w w.heap.size A n (l.map bv) := by
  obtain ⟨h1, h2, zs, hz, hr⟩ := open_nums Tryd.underlying41 Tryd.underlying5 cellsByte hs h
  obtain ⟨l, hl⟩ := bytes_of zs hz
  exact ⟨h1, h2, l, hl ▸ hr⟩

theorem cellsQuad : Tryd.prog.cellsOf 57 = 1 := by kernel_rfl
theorem open_quads (hs : ∀ b, spare b = true) (h : DataW.trod enc Tryd.prog w base spare held fuel 109 [.slice A n c] = some x) : n ≤ c ∧ c ≤ maxLen ∧ ∃ l : List Nat, Rd w w.heap.size A n (l.map qv) ∧ ∀ i x : Nat, l[i]? = some x → x < 18446744073709551616 := by
  obtain ⟨h1, h2, zs, hz, hr⟩ := open_nums Tryd.underlying109 Tryd.underlying57 cellsQuad hs h
  obtain ⟨l, hl, hb⟩ := quads_of zs hz
  exact ⟨h1, h2, l, hl ▸ hr, hb⟩

/-- lists picked one by one -/
theorem pick_lists {α β : Type} (P : Nat → α → β → Prop) : ∀ n : Nat, (∀ i, i < n → ∃ a b, P i a b) → ∃ (xs : List α) (ys : List β), xs.length = n ∧ ys.length = n ∧ ∀ (i : Nat) (a : α) (b : β), xs[i]? = some a → ys[i]? = some b → P i a b
  | 0, _ => ⟨[], [], rfl, rfl, fun i a b h => by simp at h⟩
  | n + 1, h => by
    obtain ⟨xs, ys, h1, h2, h3⟩ := pick_lists P n (fun i hi => h i (by omega))
    obtain ⟨a, b, hab⟩ := h n (by omega)
    refine ⟨xs ++ [a], ys ++ [b], by simp [h1], by simp [h2], fun i u v hu hv => ?_⟩
    rcases Nat.lt_or_ge i n with hi | hi
    · rw [List.getElem?_append_left (by omega)] at hu hv
      exact h3 i u v hu hv
    · rw [List.getElem?_append_right (by omega)] at hu hv
      have hi2 : i - xs.length = 0 := by
        rcases Nat.eq_zero_or_pos (i - xs.length) with h0 | h0
        · exact h0
        · rw [List.getElem?_eq_none (by simp; omega)] at hu; cases hu
      have hi3 : i - ys.length = 0 := by omega
      rw [hi2] at hu
      rw [hi3] at hv
      simp at hu hv
      subst hu hv
      obtain rfl : i = n := by omega
      exact hab

theorem open_texts (hs : ∀ b, spare b = true) (h : DataW.trod enc Tryd.prog w base spare held fuel 71 [.slice A n c] = some x) :
    n ≤ c ∧ c ≤ maxLen ∧ (x.1 = .nil ∧ n = 0 ∨ ∃ elems rest, x.1 = .slice elems rest ∧ elems.length = n) ∧ ∃ (vs : List Value) (ts : List (List UInt8)), Rd w w.heap.size A n vs ∧ Txs w w.heap.size vs ts := by
  rcases open_slice Tryd.underlying71 h with ⟨hcs, hx⟩ | ⟨ad, l, cap, m, q, D, Pl, hcs, _, hl, hm, hmm, hx, hi⟩
  · simp at hcs
    obtain ⟨rfl, rfl, rfl⟩ := hcs
    exact ⟨by omega, by simp [maxLen], .inl ⟨by rw [hx], rfl⟩, [], [], Rd.zero _ _ _, Txs.nil _ _⟩
  · simp at hcs
    obtain ⟨rfl, rfl, rfl⟩ := hcs
    rw [hs ad.block, if_pos rfl] at hmm
    subst hmm
    rw [cellsText] at hi
    have each : ∀ i, i < n → ∃ (v : Value) (t : List UInt8), w.cell? (ad.add i) = some v ∧ ∃ A c, v = .slice A t.length c ∧ t.length ≤ c ∧ Rd w w.heap.size A t.length (t.map bv) := by
      intro i hin
      obtain ⟨cs', hc, ht⟩ := hi i (by omega)
      obtain ⟨_, hcl, hat⟩ := World.cells?_some hc
      obtain ⟨v, rfl⟩ : ∃ v, cs' = [v] := by
        rcases cs' with _ | ⟨v, _ | ⟨u, r⟩⟩
        · simp at hcl
        · exact ⟨v, rfl⟩
        · simp at hcl
      have hv : w.cell? (ad.add i) = some v := by
        have := hat 0 (by omega)
        simpa [Addr.add] using this
      have hform : ∃ A' n' c', v = .slice A' n' c' := by
        rcases open_ints Tryd.underlying41 Tryd.underlying5 cellsByte ht with ⟨hcs, _⟩ | ⟨a', l', cap', zs, hcs, _⟩
        · simp at hcs; exact ⟨_, _, _, hcs⟩
        · simp at hcs; exact ⟨_, _, _, hcs⟩
      obtain ⟨A', n', c', rfl⟩ := hform
      obtain ⟨h1, _, t, hr⟩ := open_bytes hs ht
      obtain rfl : n' = t.length := by have := hr.len; simpa using this.symm
      exact ⟨_, t, hv, A', c', rfl, h1, hr⟩
    obtain ⟨vs, ts, hvl, htl, hP⟩ := pick_lists _ n each
    refine ⟨hl, hm, .inr ⟨_, _, by rw [hx], by simp⟩, vs, ts, ⟨hvl, fun hn => ?_⟩, ⟨by omega, fun i v t hv ht => (hP i v t hv ht).2⟩⟩
    obtain ⟨b, o, sp⟩ := ad
    obtain ⟨v0, t0, h0, _⟩ := each 0 hn
    obtain rfl : sp = none := by simpa [Addr.add] using World.cell?_spot h0
    refine ⟨b, o, rfl, World.block_lt_of_cell? w _ (by simpa [Addr.add] using h0), fun j u hu => ?_⟩
    have hj : j < n := by have := (List.getElem?_eq_some_iff.1 hu).1; omega
    have h1 := (hP j u _ hu (List.getElem?_eq_getElem (show j < ts.length by omega))).1
    rwa [Addr.add_lit] at h1
end

end Go.Proofs.YtlidhdljgnijaaaDoor

