import Derived.Test.YtmganbdbihjbmaaK10
import Derived.Test.YtmganbdbihjbmaaK12
/-
  CONTRACT of the document's first (coterieref10).
-/
set_option linter.unusedVariables false
namespace Go.Proofs.Ytmganbdbihjbmaa
open Go.RowKit

/-- how deep what a value has below is, in memory -/
def depW (w : World) : Nat → Value → Nat
  | 0, _ => 0
  | k + 1, .slice (some a) (n + 1) _ => 1 + depW w k ((w.cell? ⟨a.block, a.off + 1, none⟩).getD undef)
  | _, _ => 0
theorem dep_hi {w : World} {B : Nat} : ∀ (h k : Nat) (x : Nd) (v : Value), Nd.hi h x → NdV w B x v → h < k → depW w k v = h
  | 0, k + 1, x, v, hx, hv, hk => by
    obtain ⟨i, rfl⟩ := hi_zero hx
    rw [show v = .slice none 0 0 from hv]
    rfl
  | h + 1, k + 1, x, v, hx, hv, hk => by
    obtain ⟨A, c, rfl, hs⟩ := hv.kids
    obtain ⟨h1, h2, _, _⟩ := hi_succ hx
    obtain ⟨b, o, u, rfl, hb, hu, c1, c2⟩ := hs.get (i := 0) (by omega)
    obtain ⟨n, hn⟩ : ∃ n, x.kids.length = n + 1 := ⟨x.kids.length - 1, by omega⟩
    rw [hn, depW]
    rw [show o + 2 * 0 + 1 = o + 1 by omega] at c2
    rw [c2, Option.getD_some, dep_hi h k _ u (h2 _ (List.getElem_mem (by omega))) hu (by omega)]
    omega
theorem first_kid0 {h : Nat} {x : Nd} (hx : Nd.hi (h + 1) x) (h0 : 0 < x.kids.length) : x.kids[0].first = x.first := by
  match hk : x.kids, h0 with
  | y :: s, _ => exact first_kid hx hk

set_option maxRecDepth 100000 in
set_option maxHeartbeats 4000000 in
theorem first_any (h : Nat) (x : Nd) (v : Value) (w : World) (hh : h ≤ 100) (hx : Nd.hi h x) (hv : NdV w w.heap.size x v) :
    Calls Try.prog 71 #[.agg #[iv x.id, v]] w fun e w' => e = .returned (.int .i64 x.first) ∧ Below w.heap.size w w' := by
  have hM := (Ms.nil w).box 85 #[iv x.id, v]
  go_enter Try.func71, Try.ntmps71
  go_wp2_with fail
  go_loopw [] (fun wr => ∃ (k : Nat) (y : Nd) (u : Value), k ≤ h ∧ Nd.hi k y ∧ y.first = x.first ∧ NdV wr w.heap.size y u ∧ Ms w wr [(w.heap.size, 85, #[iv y.id, u])]) (fun wr => depW wr 1000 ((wr.cell? ⟨w.heap.size, 1, none⟩).getD undef))
  case atStart => exact ⟨h, x, v, Nat.le_refl _, hx, rfl, (hv.alloc (Nat.le_refl _) _), hM⟩
  case round =>
    clear hM
    obtain ⟨k, y, u, hk, hy, hf, hu, hM⟩ := hrel
    have hb := hM.old
    have k0 := (hM.get 0 rfl).cell (i := 0) (v := iv y.id) rfl
    have k1 := (hM.get 0 rfl).cell (i := 1) (v := u) rfl
    cases k with
    | zero =>
      obtain ⟨i, rfl⟩ := hi_zero hy
      have hu0 : u = .slice none 0 0 := hu
      subst hu0
      have hf' : i = x.first := hf
      rw [show Nd.id (.leaf i) = i from rfl, iv_def] at k0
      go_wp2_with fail
      go_ret
      exact ⟨by rw [← hf']; rfl, hb⟩
    | succ k =>
      obtain ⟨A, c, rfl, hs⟩ := hu.kids
      obtain ⟨h1, h2, _, _⟩ := hi_succ hy
      have h0 : 0 < y.kids.length := by omega
      obtain ⟨b, o, z, rfl, hbb, hz, c1, c2⟩ := hs.range (i := 0) h0
      have hzi := h2 _ (List.getElem_mem h0)
      have hzf := (first_kid0 hy h0).trans hf
      have Hdep := Lib.hid (dep_hi (k + 1) 1000 y _ hy hu (by omega))
      have Hzd := Lib.hid (dep_hi k 1000 _ _ hzi hz (by omega))
      rw [Nat.zero_mul, Nat.add_zero] at c1
      have hone := hz.one2
      generalize y.kids[0] = q at *
      have Hf := Lib.hid hzf
      clear hs hu h2 hy hf hzf h1 c2
      generalize y.kids.length = n at *
      have hn0 : (0 : Int) < (n : Int) := by omega
      clear h0
      have hM2 := hM.setT (Nat.le_refl _) (fun p hp => by cases hp) (ndC q z)
      go_wp2_with (first
        | ((with_reducible show wpList _ _ _ (⟨some 10, _, _, _, _, _⟩ :: _) _ _); refine wpList_load_midG (by kernel_rfl) 85 (.tmp 9) rfl b o rfl [iv q.id, z] _ c1 Try.underlying85 rfl sizeNd ?_)
        | ((with_reducible show wpList _ _ _ (⟨none, Op.store 85 _ _, _, _, _, _⟩ :: _) _ _); refine wpList_store_row rfl 85 (.tmp 1) (.tmp 10) rfl w.heap.size (ndC q z) rfl rfl 85 _ (hM.get 0 rfl) sizeNd rfl hone ?_))
      have hz2 := hz.below (below_setRow (Below.refl w.heap.size wr) (Nat.le_refl _) (ndC q z))
      have Hz2 := Lib.hid (dep_hi k 1000 q z hzi hz2 (by omega))
      have k2 := (hM2.get 0 rfl).cell (i := 1) (v := z) rfl
      simp only [Act.put, List.setIfInBounds_toArray, List.set_cons_zero, List.set_cons_succ]
      go_roundw
      case rel => exact ⟨k, q, z, by omega, hzi, Hf.out, hz2, hM2⟩
      case measure =>
        rw [k1, k2, Option.getD_some, Option.getD_some, Hdep.out, Hz2.out]
        omega

end Go.Proofs.Ytmganbdbihjbmaa

