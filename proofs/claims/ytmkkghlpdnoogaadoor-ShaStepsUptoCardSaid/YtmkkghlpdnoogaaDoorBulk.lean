/-
  WHAT THE BOUND OF AN UPTO ROW GIVES: of a slice of bytes, of a list of texts.
-/
import Derived.Test.YtmkkghlpdnoogaaDoorRows
import Derived.Test.YtmkkghlpdnoogaaDoorOpen
set_option linter.unusedVariables false
namespace Go.Proofs.YtmkkghlpdnoogaaDoor
open Go.ChangeShapes Go.WideShapes Go.ChangeAt Go.RowKit Go.Deep
variable {H : Type} {enc : TypeId × Value → H} {w : World} {base : Nat} {spare : Nat → Bool} {held : Bool} {fuel : Nat} {A : Option Addr} {n c : Nat} {x : DataW H × List MemPlace}

theorem bulk_some (d : DataW H) : 1 ≤ Rows.uptoBulk d := by
  cases d with
  | lit l => cases l <;> simp [Rows.uptoBulk]
  | _ => simp [Rows.uptoBulk]
theorem bulk_count : ∀ l : List (DataW H), l.length ≤ Rows.uptoBulkAll l
  | [] => by simp
  | d :: r => by
    have h1 := bulk_some d
    have h2 := bulk_count r
    simp only [Rows.uptoBulkAll, List.length_cons]
    omega
theorem bulk_part : ∀ {l : List (DataW H)} {d : DataW H}, d ∈ l → Rows.uptoBulk d ≤ Rows.uptoBulkAll l
  | e :: r, d, h => by
    simp only [Rows.uptoBulkAll]
    rcases List.mem_cons.1 h with rfl | h
    · omega
    · have := bulk_part h
      omega
theorem bulk_bound {l : List (DataW H)} (h : Rows.uptoSmall H l = true) : Rows.uptoBulkAll l ≤ 1048576 := of_decide_eq_true h
theorem bulk_flat : ∀ (ds : List (DataW H)) (ts : List (List UInt8)), ts.length = ds.length → (∀ (i : Nat) (t : List UInt8) (d : DataW H), ts[i]? = some t → ds[i]? = some d → t.length + 1 ≤ Rows.uptoBulk d) → ts.flatten.length + ts.length ≤ Rows.uptoBulkAll ds
  | [], [], _, _ => by simp [Rows.uptoBulkAll]
  | [], _ :: _, h, _ => by simp at h
  | _ :: _, [], h, _ => by simp at h
  | d :: ds, t :: ts, h, hb => by
    have h1 := hb 0 t d rfl rfl
    have h2 := bulk_flat ds ts (by simpa using h) (fun i t d ht hd => hb (i + 1) t d ht hd)
    simp only [List.flatten_cons, List.length_append, List.length_cons, Rows.uptoBulkAll]
    omega

theorem bulk_bytes (h : DataW.trod enc Tryd.prog w base spare held fuel 25 [.slice A n c] = some x) : n + 1 ≤ Rows.uptoBulk x.1 := by
  rcases open_slice Tryd.underlying25 h with ⟨hcs, hx⟩ | ⟨ad, l, cap, m, q, D, Pl, hcs, _, hl, hm, hmm, hx, hi⟩
  · simp at hcs
    obtain ⟨rfl, rfl, rfl⟩ := hcs
    exact bulk_some _
  · simp at hcs
    obtain ⟨rfl, rfl, rfl⟩ := hcs
    have := bulk_count ((List.range n).map D)
    rw [hx]
    simp only [Rows.uptoBulk]
    simp at this
    omega

theorem open_textsU (hs : ∀ b, spare b = true) (h : DataW.trod enc Tryd.prog w base spare held fuel 28 [.slice A n c] = some x) :
    n ≤ c ∧ c ≤ maxLen ∧ ∃ (vs : List Value) (ts : List (List UInt8)), Rd w w.heap.size A n vs ∧ Txs w w.heap.size vs ts ∧ ts.flatten.length + n ≤ Rows.uptoBulk x.1 := by
  rcases open_slice Tryd.underlying28 h with ⟨hcs, hx⟩ | ⟨ad, l, cap, m, q, D, Pl, hcs, _, hl, hm, hmm, hx, hi⟩
  · simp at hcs
    obtain ⟨rfl, rfl, rfl⟩ := hcs
    exact ⟨by omega, by simp [maxLen], [], [], Rd.zero _ _ _, Txs.nil _ _, Nat.zero_le _⟩
  · simp at hcs
    obtain ⟨rfl, rfl, rfl⟩ := hcs
    rw [hs ad.block, if_pos rfl] at hmm
    subst hmm
    rw [cellsText] at hi
    have each : ∀ i, i < n → ∃ (v : Value) (t : List UInt8), w.cell? (ad.add i) = some v ∧ ∃ A c, v = .slice A t.length c ∧ (t.length ≤ c ∧ Rd w w.heap.size A t.length (t.map bv)) ∧ t.length + 1 ≤ Rows.uptoBulk (D i) := by
      intro i hin
      obtain ⟨cs', hc, ht⟩ := hi i (by omega)
      obtain ⟨_, hcl, hat⟩ := World.cells?_some hc
      obtain ⟨v, rfl⟩ : ∃ v, cs' = [v] := by
        rcases cs' with _ | ⟨v, _ | ⟨u, r⟩⟩
        · simp at hcl
        · exact ⟨v, rfl⟩
        · simp at hcl
      have hv : w.cell? (ad.add i) = some v := by
        have := hat 0 (by omega)
        simpa [Addr.add] using this
      have hform : ∃ A' n' c', v = .slice A' n' c' := by
        rcases open_ints Tryd.underlying25 Tryd.underlying5 cellsByte ht with ⟨hcs, _⟩ | ⟨a', l', cap', zs, hcs, _⟩
        · simp at hcs; exact ⟨_, _, _, hcs⟩
        · simp at hcs; exact ⟨_, _, _, hcs⟩
      obtain ⟨A', n', c', rfl⟩ := hform
      obtain ⟨h1, _, t, hr⟩ := open_bytes hs ht
      obtain rfl : n' = t.length := by have := hr.len; simpa using this.symm
      exact ⟨_, t, hv, A', c', rfl, ⟨h1, hr⟩, bulk_bytes ht⟩
    obtain ⟨vs, ts, hvl, htl, hP⟩ := pick_lists _ n each
    have hfl : ts.flatten.length + ts.length ≤ Rows.uptoBulkAll ((List.range n).map D) := bulk_flat _ _ (by simp [htl]) fun i t d ht hd => by
      have hin : i < n := by have := (List.getElem?_eq_some_iff.1 ht).1; omega
      obtain ⟨_, _, _, _, _, hb⟩ := hP i _ t (List.getElem?_eq_getElem (show i < vs.length by omega)) ht
      rw [List.getElem?_map, List.getElem?_range hin] at hd
      obtain rfl : D i = d := by simpa using hd
      exact hb
    refine ⟨hl, hm, vs, ts, ⟨hvl, fun hn => ?_⟩, ⟨by omega, fun i v t hv ht => ?_⟩, ?_⟩
    rotate_left
    · obtain ⟨_, A', c', e, h, _⟩ := hP i v t hv ht
      exact ⟨A', c', e, h⟩
    · rw [hx]
      simp only [Rows.uptoBulk]
      rw [htl] at hfl
      omega
    obtain ⟨b, o, sp⟩ := ad
    obtain ⟨v0, t0, h0, _⟩ := each 0 hn
    obtain rfl : sp = none := by simpa [Addr.add] using World.cell?_spot h0
    refine ⟨b, o, rfl, World.block_lt_of_cell? w _ (by simpa [Addr.add] using h0), fun j u hu => ?_⟩
    have hj : j < n := by have := (List.getElem?_eq_some_iff.1 hu).1; omega
    have h1 := (hP j u _ hu (List.getElem?_eq_getElem (show j < ts.length by omega))).1
    rwa [Addr.add_lit] at h1

end Go.Proofs.YtmkkghlpdnoogaaDoor
