import Derived.Test.YtlidhdljgnijaaaDoorK20
/-
  CONTRACTS of the program's red.leaf: its closure, and slices.IndexFunc over nodes with it.
-/
set_option linter.unusedVariables false
namespace Go.Proofs.YtlidhdljgnijaaaDoor
open Go.RowKit

set_option maxRecDepth 100000 in
theorem PLeafB_any (x : RI) (u : Value) (b : Nat) (p : Int) (w : World) (hb : w.cell? ⟨b, 0, none⟩ = some (.int .i64 p)) (hu : u.oneCell' = true) :
    Calls Tryd.prog 100 #[.agg (riC x u).toArray, .pointer (some ⟨b, 0, none⟩)] w fun e w' => e = .returned (.bool (x.lev == 0 && x.at_ == p)) ∧ Below w.heap.size w w' := by
  have hM := (Ms.nil w).box 68 (riC x u).toArray
  have hold := hM.old
  have c0 := (hM.get 0 rfl).cell (i := 0) (v := .int .i64 x.lev) rfl
  have c1 := (hM.get 0 rfl).cell (i := 1) (v := .int .i64 x.at_) rfl
  have hb1 : (w.alloc (.cells (riC x u).toArray 68)).cell? ⟨b, 0, none⟩ = some (.int .i64 p) := by
    rw [World.cell?_of_block (hold.block b (World.block_lt_of_cell? w _ hb))]
    exact hb
  have Hpost := Lib.hid (show ∀ r w', r = (x.lev == 0 && x.at_ == p) → Below w.heap.size w w' → (fun e w' => e = Ending.returned (Value.bool (x.lev == 0 && x.at_ == p)) ∧ Below w.heap.size w w') (.returned (.bool r)) w' from fun r w' h1 h2 => ⟨by rw [h1], h2⟩)
  generalize (fun e w' => e = Ending.returned (Value.bool (x.lev == 0 && x.at_ == p)) ∧ Below w.heap.size w w') = PO at *
  by_cases h1 : x.lev = 0
  · by_cases h2 : x.at_ = p
    · have hc := Lib.hid (show true = (x.lev == 0 && x.at_ == p) by simp [h1, h2])
      have hbn : (x.at_ == p) = true := by simpa using h2
      clear hM
      go_enter Tryd.func100, Tryd.ntmps100
      go_wp2_with fail
      (first | exact Hpost.out _ _ hc.out hold | exact bodyPost_ret (results_tmp rfl _ _ _) rfl (Hpost.out _ _ hc.out hold))
    · have hc := Lib.hid (show false = (x.lev == 0 && x.at_ == p) by simp [h2])
      have hbn : (x.at_ == p) = false := by simpa using h2
      clear hM
      go_enter Tryd.func100, Tryd.ntmps100
      go_wp2_with fail
      (first | exact Hpost.out _ _ hc.out hold | exact bodyPost_ret (results_tmp rfl _ _ _) rfl (Hpost.out _ _ hc.out hold))
  · have hc := Lib.hid (show false = (x.lev == 0 && x.at_ == p) by simp [h1])
    clear hM
    go_enter Tryd.func100, Tryd.ntmps100
    go_wp2_with fail
    (first | exact Hpost.out _ _ hc.out hold | exact bodyPost_ret (results_tmp rfl _ _ _) rfl (Hpost.out _ _ hc.out hold))

def leafB (p : Int) (x : RI) : Bool := x.lev == 0 && x.at_ == p
set_option maxRecDepth 100000 in
set_option maxHeartbeats 4000000 in
theorem PIndexF_any (A : Option Addr) (n c : Nat) (ns : List RI) (p : Int) (b B k : Nat) (x : RI) (w : World) (hN : NdR w B A n c ns) (hB : B ≤ w.heap.size) (hb : w.cell? ⟨b, 0, none⟩ = some (.int .i64 p)) (hk : ns[k]? = some x) (hx : leafB p x = true) (hmin : ∀ (i : Nat) (y : RI), i < k → ns[i]? = some y → leafB p y = false) (hn : n ≤ 100000) :
    Calls Tryd.prog 41 #[.slice A n c, .func (.func 100) #[] #[.pointer (some ⟨b, 0, none⟩)]] w fun e w' => e = .returned (.int .i64 (k : Nat)) ∧ Below w.heap.size w w' := by
  have Hmin := Lib.hid hmin
  have Hn := Lib.hid hN.len
  have hkn : k < n := by rw [← hN.len]; exact (List.getElem?_eq_some_iff.1 hk).1
  have hblt := World.block_lt_of_cell? w _ hb
  have Hpost := Lib.hid (show ∀ w', Below w.heap.size w w' → (fun e w' => e = Ending.returned (Value.int .i64 (k : Nat)) ∧ Below w.heap.size w w') (.returned (.int .i64 (k : Nat))) w' from fun w' h => ⟨rfl, h⟩)
  generalize (fun e w' => e = Ending.returned (Value.int .i64 (k : Nat)) ∧ Below w.heap.size w w') = PO at *
  clear hmin
  go_enter Tryd.func41, Tryd.ntmps41
  go_wp2_with fail
  go_loopw [8] (fun v8 wr => ∃ j : Nat, j ≤ k ∧ v8 = .int .i64 (j : Int) ∧ Below w.heap.size w wr) (fun v8 _ => n - (intOf v8).toNat)
  case atStart => exact ⟨0, by omega, rfl, Below.refl _ _⟩
  case round =>
    obtain ⟨j, hj, rfl, hold⟩ := hrel
    have hjn : j < n := by omega
    have hjx : j < ns.length := by rw [Hn.out]; exact hjn
    have hy : ns[j]? = some ns[j] := List.getElem?_eq_getElem hjx
    obtain ⟨g, o, Au, cu, rfl, hg, hrg, _, _, _⟩ := (hN.below (hold.mono hB)).range hy
    have hlf := PLeafB_any ns[j] (.slice Au ns[j].kids.length cu) b p wr (by rw [World.cell?_of_block (hold.block b hblt)]; exact hb) rfl
    have Hj := Lib.hid (show j < k → leafB p ns[j] = false from fun h => Hmin.out j _ h hy)
    have Hk := Lib.hid (show j = k → leafB p ns[j] = true from fun h => by
      subst h
      rw [hy] at hk
      rw [Option.some.inj hk]
      exact hx)
    generalize ns[j] = y at *
    rw [← leafB] at hlf
    have zj : (j : Int) < (n : Int) := by omega
    go_wp2_with ((with_reducible show wpList _ _ _ (⟨some 15, _, _, _, _, _⟩ :: _) _ _); refine wpList_load_midG (by kernel_rfl) 68 (.tmp 14) rfl g (o + j * 7) rfl (riC y (.slice Au y.kids.length cu)) _ hrg Tryd.underlying68 rfl rnInfo2 ?_)
    refine hlf.mono ?_
    rintro e w2 ⟨rfl, hb2⟩
    have hold2 := hold.trans (hb2.mono hold.size)
    by_cases hjk : j = k
    · rw [Hk.out hjk]
      subst hjk
      clear hlf hrg
      go_wp2_with fail
      (first | exact Hpost.out _ hold2 | exact bodyPost_ret (results_tmp rfl _ _ _) rfl (Hpost.out _ hold2))
    · rw [Hj.out (by omega)]
      clear hlf hrg
      go_wp2_with fail
      go_roundw
      case rel => exact ⟨j + 1, by omega, by go_num, hold2⟩
      case measure => simp [intOf]; omega

set_option maxRecDepth 100000 in
theorem PLeaf_any (A : Option Addr) (n c : Nat) (ns : List RI) (p : Int) (k : Nat) (x : RI) (w : World) (hN : NdR w w.heap.size A n c ns) (hk : ns[k]? = some x) (hx : leafB p x = true) (hmin : ∀ (i : Nat) (y : RI), i < k → ns[i]? = some y → leafB p y = false) (hn : n ≤ 100000) :
    Calls Tryd.prog 88 #[.slice A n c, .int .i64 p] w fun e w' => e = .returned (.int .i64 (k : Nat)) ∧ Below w.heap.size w w' := by
  have hM := (Ms.nil w).box 3 #[.int .i64 p]
  have hix := PIndexF_any A n c ns p w.heap.size w.heap.size k x _ (hN.below hM.old) hM.old.size ((hM.get 0 rfl).cell (i := 0) rfl) hk hx hmin hn
  have hold := hM.old
  have hmf : ∀ (fn : Fn) (first cap : Array Value) (w : World), (Instr.makeFunc fn first cap).run Tryd.prog w = .ok (.func fn first cap) w := fun _ _ _ _ => rfl
  clear hk hx hmin hM
  go_enter Tryd.func88, Tryd.ntmps88
  go_wp2_with fail
  refine hix.mono ?_
  rintro e w2 ⟨rfl, hb2⟩
  have hold2 := hold.trans (hb2.mono (by simp))
  clear hix hmf
  go_wp2_with fail
  go_ret
  exact ⟨rfl, hold2⟩

end Go.Proofs.YtlidhdljgnijaaaDoor

