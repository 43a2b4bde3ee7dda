import Derived.Test.YtgjeamapgdakcaaDoorG06
/-
  CONTRACT of the document's Few (coterieref01), which many laws call.
-/
set_option linter.unusedVariables false
namespace Go.Proofs.YtgjeamapgdakcaaDoor
open Go.RowKit

def FewPost (m : Nat) (w : World) (e : Ending) (w' : World) : Prop := ∃ b : Bool, e = .returned (.bool b) ∧ (b = true → m ≤ 200) ∧ w = w'

theorem Few_any (At : Option Addr) (m ct : Nat) (vs : List Value) (ts : List (List UInt8)) (w : World) (B : Nat) (hm : m ≤ 5864062014805)
    (hv : Rd w B At m vs) (ht : Txs w B vs ts) :
    Calls Tryd.prog 8 #[.slice At m ct] w (FewPost m w) := by
  have hml : vs.length = m := hv.len
  have htl : ts.length = m := by rw [← ht.1, hml]
  have Hml := Lib.hid hml
  have Htl := Lib.hid htl
  clear hml htl
  go_enter Tryd.func8, Tryd.ntmps8
  go_wp2_with fail
  go_loop [3, 8] (fun x i => ∃ j q : Nat, j ≤ m ∧ i = .int .i64 (j : Int) ∧ x = .int .i64 (q : Int) ∧ q ≤ 70000 * j) (fun _ i => m - (intOf i).toNat)
  case atStart => exact ⟨0, 0, by omega, rfl, rfl, by omega⟩
  case round =>
    obtain ⟨j, q, hj, rfl, rfl, hq⟩ := hrel
    by_cases hlt : j < m
    · obtain ⟨b, o, rfl, hb, hc⟩ := hv.pos (by omega)
      obtain ⟨v, hvj⟩ : ∃ v, vs[j]? = some v := ⟨_, List.getElem?_eq_getElem (by have := Hml.out; omega)⟩
      obtain ⟨t, htj⟩ : ∃ t, ts[j]? = some t := ⟨_, List.getElem?_eq_getElem (by have := Htl.out; omega)⟩
      obtain ⟨Ax, cx, rfl, hcx, hrx⟩ := ht.2 j v t hvj htj
      have hcell := hc j _ hvj
      clear hvj htj hc
      go_wp2_with fail
      all_goals
        go_round
        case rel => exact ⟨j + 1, q + min t.length 70000, by omega, by go_num, by first | rfl | (go_num; done) | (congr 1; omega), by omega⟩
        case measure => simp [intOf]; omega
    · obtain rfl : j = m := by omega
      by_cases h2 : j ≤ 200
      · by_cases h3 : q ≤ 140000
        · have h3b : decide ((q : Int) ≤ 140000) = true := by simp; omega
          go_wp2_with fail
          go_ret
          exact ⟨true, rfl, fun _ => h2, rfl⟩
        · have h3b : decide ((q : Int) ≤ 140000) = false := by simp; omega
          go_wp2_with fail
          go_ret
          exact ⟨false, rfl, fun _ => h2, rfl⟩
      · go_wp2_with fail
        go_ret
        exact ⟨false, rfl, fun h => by simp at h, rfl⟩

end Go.Proofs.YtgjeamapgdakcaaDoor

