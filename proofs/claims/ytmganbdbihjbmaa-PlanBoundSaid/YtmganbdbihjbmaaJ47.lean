import Derived.Test.YtmganbdbihjbmaaJ41
import Derived.Test.YtmganbdbihjbmaaJ06
/-
  THE WALK of plan.Most (layer 12), where both trees may be.
-/
set_option linter.unusedVariables false
namespace Go.Proofs.Ytmganbdbihjbmaa
open Go.RowKit

set_option maxRecDepth 100000 in
set_option maxHeartbeats 4000000 in
theorem PMost_ok (Ai : Option Addr) (ni ci : Nat) (Al : Option Addr) (nl cl : Nat) (ids : List Int) (ll : List (List Int)) (Ai' : Option Addr) (ni' ci' : Nat) (Al' : Option Addr) (nl' cl' : Nat) (ids' : List Int) (ll' : List (List Int)) (m : Int) (w : World)
    (h : ShR w w.heap.size Ai ni ci Al nl cl ids ll) (h' : ShR w w.heap.size Ai' ni' ci' Al' nl' cl' ids' ll') (hf : ∀ l ∈ ll, l.length ≤ 1000000) (hf' : ∀ l ∈ ll', l.length ≤ 1000000) (hi6 : ni ≤ 1000000) (hi6' : ni' ≤ 1000000) (hn : nl ≤ 1000000) (hn' : nl' ≤ 1000000)
    (c : chkE ids ll = 0) (c' : chkE ids' ll' = 0) (hm0 : 0 ≤ m) (hm1 : m ≤ 100000) :
    Calls Try.prog 19 #[.agg (shV Ai ni ci Al nl cl), .agg (shV Ai' ni' ci' Al' nl' cl'), .int .i64 m] w fun e w' => e = .returned (.tuple #[.int .i64 (4 * (2 * m + 1) * (max (nl : Int) (nl' : Int) + 2)), .int .i64 0]) ∧ Below w.heap.size w w' := by
  have hM0 := ((Ms.nil w).box 25 (shV Ai ni ci Al nl cl)).box 25 (shV Ai' ni' ci' Al' nl' cl')
  simp only [World.size_alloc] at hM0
  have sh := fun wx (hb : Below w.heap.size w wx) => PCheck_any Ai ni ci Al nl cl ids ll wx ((h.below hb).more hb.size) hf hi6
  have sh' := fun wx (hb : Below w.heap.size w wx) => PCheck_any Ai' ni' ci' Al' nl' cl' ids' ll' wx ((h'.below hb).more hb.size) hf' hi6'
  rw [c] at sh
  rw [c'] at sh'
  clear h h' hf hf' c c'
  go_enter Try.func19, Try.ntmps19
  go_upto_region 1 with fail
  try simp only [Act.put]
  refine wp_gen (fun wx => Ms w wx [(w.heap.size + 1, 25, shV Ai' ni' ci' Al' nl' cl'), (w.heap.size, 25, shV Ai ni ci Al nl cl)]) hM0 ?_
  clear hM0
  rintro w0 hM0
  have c0 := (hM0.get 1 rfl).cell (i := 0) (v := .slice Ai ni ci) rfl
  have c1 := (hM0.get 1 rfl).cell (i := 1) (v := .slice Al nl cl) rfl
  go_wp2_with fail
  refine (sh _ hM0.old).mono ?_
  rintro e w1 ⟨rfl, hb1⟩
  have hM1 := hM0.call hb1
  clear hM0 hb1 sh c0 c1
  have c0 := (hM1.get 0 rfl).cell (i := 0) (v := .slice Ai' ni' ci') rfl
  have c1 := (hM1.get 0 rfl).cell (i := 1) (v := .slice Al' nl' cl') rfl
  go_wp2_with fail
  refine (sh' _ hM1.old).mono ?_
  rintro e w2 ⟨rfl, hb2⟩
  have hM2 := hM1.call hb2
  clear hM1 hb2 sh' c0 c1
  have hold := hM2.old
  have z3 : ¬ m < 0 := by omega
  have z4 : ¬ 100000 < m := by omega
  have k1 := (hM2.get 1 rfl).cell (i := 1) (v := .slice Al nl cl) rfl
  have k1' := (hM2.get 0 rfl).cell (i := 1) (v := .slice Al' nl' cl') rfl
  have zw : IntKind.i64.wrap (4 * (2 * m + 1) * (max (nl : Int) (nl' : Int) + 2)) = 4 * (2 * m + 1) * (max (nl : Int) (nl' : Int) + 2) := by
    have ha : 0 ≤ 4 * (2 * m + 1) ∧ 4 * (2 * m + 1) ≤ 800004 := by omega
    have hb : 0 ≤ max (nl : Int) (nl' : Int) + 2 ∧ max (nl : Int) (nl' : Int) + 2 ≤ 1000002 := by omega
    generalize 4 * (2 * m + 1) = a at *
    generalize max (nl : Int) (nl' : Int) + 2 = b at *
    have h5 := Int.mul_nonneg ha.1 hb.1
    have h6 := Int.mul_le_mul ha.2 hb.2 hb.1 (show (0 : Int) ≤ 800004 by decide)
    generalize a * b = x at *
    rw [IntKind.wrap_i64]
    omega
  clear hM2
  go_wp2_with fail
  refine bodyPost_ret (results_tmp2 rfl _ _ _) rfl ⟨?_, hold⟩
  rfl

end Go.Proofs.Ytmganbdbihjbmaa

