import Derived.Test.YtgjeamapgdakcaaDoorG22
/-
  THE DOCUMENT'S Few, with what it bounds.
-/
set_option linter.unusedVariables false
namespace Go.Proofs.YtgjeamapgdakcaaDoor
open Go.RowKit

/-- the lengths, each no more than 70000 -/
def fewSum (ts : List (List UInt8)) : Nat := (ts.map fun t => min t.length 70000).sum
theorem fewSum_succ {ts : List (List UInt8)} {j : Nat} {t : List UInt8} (h : ts[j]? = some t) : fewSum (ts.take (j + 1)) = fewSum (ts.take j) + min t.length 70000 := by
  unfold fewSum
  rw [take_succ_of h, List.map_append, List.sum_append]
  simp
theorem fewSum_good : ∀ (ts : List (List UInt8)), (∀ t ∈ ts, t.length ≤ 70000) → fewSum ts = ts.flatten.length
  | [], _ => rfl
  | t :: r, h => by
    have h1 := fewSum_good r (fun x hx => h x (List.mem_cons_of_mem _ hx))
    have h2 := h t (List.mem_cons_self ..)
    unfold fewSum at h1 ⊢
    rw [List.map_cons, List.sum_cons, h1, List.flatten_cons, List.length_append, Nat.min_eq_left h2]

def FewAllPost (m : Nat) (ts : List (List UInt8)) (w : World) (e : Ending) (w' : World) : Prop := ∃ b : Bool, e = .returned (.bool b) ∧ (b = true → m ≤ 200 ∧ fewSum ts ≤ 140000) ∧ w = w'

theorem FewAll_any (At : Option Addr) (m ct : Nat) (vs : List Value) (ts : List (List UInt8)) (w : World) (B : Nat) (hm : m ≤ 5864062014805)
    (hv : Rd w B At m vs) (ht : Txs w B vs ts) :
    Calls Tryd.prog 8 #[.slice At m ct] w (FewAllPost m ts w) := by
  have hml : vs.length = m := hv.len
  have htl : ts.length = m := by rw [← ht.1, hml]
  have Hml := Lib.hid hml
  have Htl := Lib.hid htl
  clear hml htl
  go_enter Tryd.func8, Tryd.ntmps8
  go_wp2_with fail
  go_loop [3, 8] (fun x i => ∃ j q : Nat, j ≤ m ∧ i = .int .i64 (j : Int) ∧ x = .int .i64 (q : Int) ∧ q ≤ 70000 * j ∧ Hid (q = fewSum (ts.take j))) (fun _ i => m - (intOf i).toNat)
  case atStart => exact ⟨0, 0, by omega, rfl, rfl, by omega, Lib.hid rfl⟩
  case round =>
    obtain ⟨j, q, hj, rfl, rfl, hq, hqs⟩ := hrel
    by_cases hlt : j < m
    · obtain ⟨b, o, rfl, hb, hc⟩ := hv.pos (by omega)
      obtain ⟨v, hvj⟩ : ∃ v, vs[j]? = some v := ⟨_, List.getElem?_eq_getElem (by have := Hml.out; omega)⟩
      obtain ⟨t, htj⟩ : ∃ t, ts[j]? = some t := ⟨_, List.getElem?_eq_getElem (by have := Htl.out; omega)⟩
      obtain ⟨Ax, cx, rfl, hcx, hrx⟩ := ht.2 j v t hvj htj
      have hcell := hc j _ hvj
      have Hsn := Lib.hid (fewSum_succ htj)
      clear hvj htj hc
      go_wp2_with fail
      all_goals
        go_round
        case rel => exact ⟨j + 1, q + min t.length 70000, by omega, by go_num, by first | rfl | (go_num; done) | (congr 1; omega), by omega, Lib.hid (by rw [Hsn.out, hqs.out])⟩
        case measure => simp [intOf]; omega
    · obtain rfl : j = m := by omega
      have hall : ts.take j = ts := List.take_of_length_le (by have := Htl.out; omega)
      by_cases h2 : j ≤ 200
      · by_cases h3 : q ≤ 140000
        · have h3b : decide ((q : Int) ≤ 140000) = true := by simp; omega
          go_wp2_with fail
          go_ret
          exact ⟨true, rfl, fun _ => ⟨h2, by have := hqs.out; rw [hall] at this; omega⟩, rfl⟩
        · have h3b : decide ((q : Int) ≤ 140000) = false := by simp; omega
          go_wp2_with fail
          go_ret
          exact ⟨false, rfl, fun h => by simp at h, rfl⟩
      · go_wp2_with fail
        go_ret
        exact ⟨false, rfl, fun h => by simp at h, rfl⟩

end Go.Proofs.YtgjeamapgdakcaaDoor

