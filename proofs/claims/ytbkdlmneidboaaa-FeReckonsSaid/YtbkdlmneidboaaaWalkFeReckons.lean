/-
  THE WALK of FeReckons (coterielaw05).
-/
import Derived.Test.YtbkdlmneidboaaaFeStands
set_option linter.unusedVariables false
namespace Go.Proofs.Ytbkdlmneidboaaa
open Go.RowKit

theorem eql_num (w : World) (u v : Nat) (hu : u < P25) (hv : v < P25) :
    (Op.equalIn 10000 43 (.agg (numC (numF u))) (.agg (numC (numF v)))).run Try.prog w = .ok (u == v) w := by
  obtain ⟨i, hi⟩ := quad_info
  have h := run_eqlRow w false Try.underlying43 Try.underlying35 hi quadCells qv (fun x => (x : Int)) (fun _ => rfl) qv_inj 0 (numL u) (numL v) (numL_len u) (numL_len v)
  have e : (numL u == numL v) = (u == v) := by
    rw [Bool.eq_iff_iff, beq_iff_eq, beq_iff_eq]
    constructor
    · intro h
      rw [← numF_may hu, ← numF_may hv]
      refine sumF_congr 16 (fun k hk => ?_)
      have := congrArg (·[k]?) h
      simpa [numL, hk] using this
    · intro h
      rw [h]
  have e0 : ∀ x, numC (numF x) = ((numL x).map qv).toArray := fun x => by rw [numC, qC, numL]
  rw [e0, e0, ← e]
  exact h

theorem t_add (a b : Fe5) : valF (addQ a b) % P25 = (valF a % P25 + valF b % P25) % P25 := by rw [addQ_val, Nat.add_mod]
theorem t_sub (a : Fe5) {b : Fe5} (hb : MayF b) : valF (subQ a b) % P25 = (valF a % P25 + (P25 - valF b % P25)) % P25 := by
  have h := subQ_val (a := a) hb
  have hl := P25_lt (valF b)
  rw [Nat.add_mod] at h
  have h2 := P25_lt (valF (subQ a b))
  have h3 := P25_lt (valF a)
  generalize valF (subQ a b) % P25 = x at *
  generalize valF a % P25 = y at *
  generalize valF b % P25 = z at *
  unfold P25 at *
  omega
theorem t_mul (a b : Fe5) : valF (mulQ a b) % P25 = valF a % P25 * (valF b % P25) % P25 := by rw [mulQ_val, Nat.mul_mod]

set_option maxRecDepth 1000000 in
set_option maxHeartbeats 8000000 in
theorem walk_FeReckons_ok (a b : Fe5) (k : List UInt8) (w : World) (ha : WordF a) (hb : WordF b) (hk : k.length = 32) (hma : MayF a) (hmb : MayF b) :
    Calls Try.prog 4 #[.agg (feC a), .agg (feC b), .agg (keyC k)] w fun e w' => e = .returned (.bool true) ∧ Below w.heap.size w w' := by
  have hM0 := (((Ms.nil w).box 37 (feC a)).box 37 (feC b)).box 39 (keyC k)
  simp only [World.size_alloc] at hM0
  have hst := fun wx => Stands_true (ofU k) (keyV k % 57896044618658097711785492504343953926634992332820282019728792003956564819968 % P25) wx (ofU_may k) (by rw [ofU_val])
  have hof := fun wx => Of_any k wx hk
  have hfk := fun wx => FromKey_any k wx hk
  have Hsk := Lib.hid (sizeKey hk)
  generalize numC (numF (keyV k % 57896044618658097711785492504343953926634992332820282019728792003956564819968 % P25)) = nk at *
  generalize feC (ofU k) = fk at *
  obtain ⟨lk, hlk⟩ : ∃ l : List Value, l.toArray = keyC k := ⟨_, Array.toArray_toList⟩
  rw [← hlk] at hM0 hof hfk Hsk ⊢
  clear hlk
  go_enter Try.func4, Try.ntmps4
  go_wp2_with fail
  refine (live05 _).mono ?_
  rintro e w1 ⟨rfl, hb1⟩
  have hM1 := hM0.call hb1
  clear hM0 hb1
  go_wp2_with fail
  have hkeep : ∀ wx : World, Below w1.heap.size w1 wx → wx.rangeAt (w.heap.size + 1 + 1) 0 lk := fun wx hb => ((hM1.get 0 rfl).call hb).range
  have huk := Try.underlying39
  have hik := Hsk.out
  refine beginT (fun wx => wx.rangeAt (w.heap.size + 1 + 1) 0 lk) 6 (by kernel_rfl) ?_
  have hS := hkeep _ (c_drew (c_refl _))
  refine loadT 0 (some 17) 39 (.tmp 5) (w.heap.size + 1 + 1) 0 lk rfl rfl (by kernel_rfl) (by kernel_rfl) (by kernel_rfl) (by kernel_rfl) rfl (by kernel_rfl) rfl (fun wx hSw => hSw) huk rfl hik (fun _ _ _ h => h) hS ?_
  simp only [Act.put, List.setIfInBounds_toArray, List.set_cons_zero, List.set_cons_succ]
  refine loadT 2 (some 19) 39 (.tmp 5) (w.heap.size + 1 + 1) 0 lk rfl rfl (by kernel_rfl) (by kernel_rfl) (by kernel_rfl) (by kernel_rfl) rfl (by kernel_rfl) rfl (fun wx hSw => hSw) huk rfl hik (fun _ _ _ h => h) hS ?_
  simp only [Act.put, List.setIfInBounds_toArray, List.set_cons_zero, List.set_cons_succ]
  refine oneT 1 (by kernel_rfl) rfl (fun K hK => ?_)
  go_simp
  refine (hof _).mono ?_
  rintro e wa ⟨rfl, hba⟩
  refine hK.out _ _ (fun _ => hkeep _ (by (repeat (first | exact c_refl _ | refine c_drew ?_ | refine c_alloc ?_ _ | refine c_row ?_ (by first | omega | exact Nat.le_refl _) _ | refine c_call ?_ (by assumption))); first | done | fail "open")) ?_
  clear hK K
  refine oneT 3 (by kernel_rfl) rfl (fun K hK => ?_)
  go_simp
  refine (hfk _).mono ?_
  rintro e wb ⟨rfl, hbb⟩
  refine hK.out _ _ (fun _ => hkeep _ (by (repeat (first | exact c_refl _ | refine c_drew ?_ | refine c_alloc ?_ _ | refine c_row ?_ (by first | omega | exact Nat.le_refl _) _ | refine c_call ?_ (by assumption))); first | done | fail "open")) ?_
  clear hK K
  refine oneT 4 (by kernel_rfl) rfl (fun K hK => ?_)
  go_simp
  refine (hst _).mono ?_
  rintro e wc ⟨rfl, hbc⟩
  refine hK.out _ _ (fun _ => hkeep _ (by (repeat (first | exact c_refl _ | refine c_drew ?_ | refine c_alloc ?_ _ | refine c_row ?_ (by first | omega | exact Nat.le_refl _) _ | refine c_call ?_ (by assumption))); first | done | fail "open")) ?_
  clear hK K
  have hE : Below w1.heap.size w1 wc := (by (repeat (first | exact c_refl _ | refine c_drew ?_ | refine c_alloc ?_ _ | refine c_row ?_ (by first | omega | exact Nat.le_refl _) _ | refine c_call ?_ (by assumption))); first | done | fail "open")
  have hS2 := hkeep wc hE
  refine takeD 5 (some 22) (.bool false) rfl rfl (by kernel_rfl) (by kernel_rfl) (by kernel_rfl) (by kernel_rfl) (fun _ _ _ h => h) (Or.inl ⟨by kernel_rfl, fun wx hSw => by go_simp⟩) hS2 ?_
  simp only [Act.put, List.setIfInBounds_toArray, List.set_cons_zero, List.set_cons_succ]
  refine doneT (by kernel_rfl) ?_ _
  have hM2 := hM1.call hE
  clear hkeep hS hS2 hE hM1 hst hof hfk hik huk Hsk hbc hbb hba
  have Hsa := Lib.hid (sizeFe a)
  have Hsb := Lib.hid (sizeFe b)
  have Hw := Lib.hid ha
  have Hwb := Lib.hid hb
  clear ha hb hk
  have Ha := Lib.hid hma
  have Hb := Lib.hid hmb
  clear hma hmb
  go_wp2_with (first
    | ((with_reducible show wpList _ _ _ (⟨some 24, _, _, _, _, _⟩ :: _) _ _); refine wpList_loadC (by kernel_rfl) 37 (.tmp 3) rfl (w.heap.size) rfl 37 (feC a) _ (hM2.get 2 rfl) Try.underlying37 rfl Hsa.out ?_)
    | ((with_reducible show wpList _ _ _ (⟨some 25, _, _, _, _, _⟩ :: _) _ _); refine wpList_loadC (by kernel_rfl) 37 (.tmp 4) rfl (w.heap.size + 1) rfl 37 (feC b) _ (hM2.get 1 rfl) Try.underlying37 rfl Hsb.out ?_))
  refine (Add_ok a b _ Ha.out Hb.out).mono ?_
  rintro e w3 ⟨rfl, hb3⟩
  have hM3 := hM2.call hb3
  clear hM2 hb3
  have hP3 := hM3.put 37 #[.int .u64 0, .int .u64 0, .int .u64 0, .int .u64 0, .int .u64 0] (feC (addQ a b))
  go_wp2_with (first
    | ((with_reducible show wpList _ _ _ (⟨none, Op.store 37 _ _, _, _, _, _⟩ :: _) _ _); refine wpList_store_row rfl 37 (.tmp 8) (.tmp 27) rfl (w3.heap.size) (feC (addQ a b)) rfl rfl 37 _ (RowC.new _ _ _) (sizeFe _) (fe_zero _) (one_fe _) ?_)
    | ((with_reducible show wpList _ _ _ (⟨some 30, _, _, _, _, _⟩ :: _) _ _); refine wpList_loadC (by kernel_rfl) 37 (.tmp 3) rfl (w.heap.size) rfl 37 (feC a) _ (hP3.get 3 rfl) Try.underlying37 rfl Hsa.out ?_)
    | ((with_reducible show wpList _ _ _ (⟨some 31, _, _, _, _, _⟩ :: _) _ _); refine wpList_loadC (by kernel_rfl) 37 (.tmp 4) rfl (w.heap.size + 1) rfl 37 (feC b) _ (hP3.get 2 rfl) Try.underlying37 rfl Hsb.out ?_))
  refine (Sub_ok a b _ Ha.out Hb.out).mono ?_
  rintro e w4 ⟨rfl, hb4⟩
  have hM4 := hP3.call hb4
  clear hP3 hb4
  have hP4 := hM4.put 37 #[.int .u64 0, .int .u64 0, .int .u64 0, .int .u64 0, .int .u64 0] (feC (subQ a b))
  go_wp2_with (first
    | ((with_reducible show wpList _ _ _ (⟨none, Op.store 37 _ _, _, _, _, _⟩ :: _) _ _); refine wpList_store_row rfl 37 (.tmp 10) (.tmp 33) rfl (w4.heap.size) (feC (subQ a b)) rfl rfl 37 _ (RowC.new _ _ _) (sizeFe _) (fe_zero _) (one_fe _) ?_)
    | ((with_reducible show wpList _ _ _ (⟨some 36, _, _, _, _, _⟩ :: _) _ _); refine wpList_loadC (by kernel_rfl) 37 (.tmp 3) rfl (w.heap.size) rfl 37 (feC a) _ (hP4.get 4 rfl) Try.underlying37 rfl Hsa.out ?_)
    | ((with_reducible show wpList _ _ _ (⟨some 37, _, _, _, _, _⟩ :: _) _ _); refine wpList_loadC (by kernel_rfl) 37 (.tmp 4) rfl (w.heap.size + 1) rfl 37 (feC b) _ (hP4.get 3 rfl) Try.underlying37 rfl Hsb.out ?_))
  refine (Mul_ok a b _ Ha.out Hb.out).mono ?_
  rintro e w5 ⟨rfl, hb5⟩
  have hM5 := hP4.call hb5
  clear hP4 hb5
  have hP5 := hM5.put 37 #[.int .u64 0, .int .u64 0, .int .u64 0, .int .u64 0, .int .u64 0] (feC (mulQ a b))
  go_wp2_with (first
    | ((with_reducible show wpList _ _ _ (⟨none, Op.store 37 _ _, _, _, _, _⟩ :: _) _ _); refine wpList_store_row rfl 37 (.tmp 12) (.tmp 39) rfl (w5.heap.size) (feC (mulQ a b)) rfl rfl 37 _ (RowC.new _ _ _) (sizeFe _) (fe_zero _) (one_fe _) ?_)
    | ((with_reducible show wpList _ _ _ (⟨some 41, _, _, _, _, _⟩ :: _) _ _); refine wpList_loadC (by kernel_rfl) 37 (.tmp 3) rfl (w.heap.size) rfl 37 (feC a) _ (hP5.get 5 rfl) Try.underlying37 rfl Hsa.out ?_))
  refine (May_true a _ Ha.out).mono ?_
  rintro e w6 ⟨rfl, hb6⟩
  have hM6 := hP5.call hb6
  clear hP5 hb6
  go_wp2_with ((with_reducible show wpList _ _ _ (⟨some 45, _, _, _, _, _⟩ :: _) _ _); refine wpList_loadC (by kernel_rfl) 37 (.tmp 4) rfl (w.heap.size + 1) rfl 37 (feC b) _ (hM6.get 4 rfl) Try.underlying37 rfl Hsb.out ?_)
  refine (May_true b _ Hb.out).mono ?_
  rintro e w7 ⟨rfl, hb7⟩
  have hM7 := hM6.call hb7
  clear hM6 hb7
  go_wp2_with ((with_reducible show wpList _ _ _ (⟨some 71, _, _, _, _, _⟩ :: _) _ _); refine wpList_loadC (by kernel_rfl) 37 (.tmp 3) rfl (w.heap.size) rfl 37 (feC a) _ (hM7.get 5 rfl) Try.underlying37 rfl Hsa.out ?_)
  refine (OfN_any a _ Ha.out).mono ?_
  rintro e w8 ⟨rfl, hb8⟩
  have hM8 := hM7.call hb8
  clear hM7 hb8
  have hP8 := hM8.put 43 #[.int .u64 0, .int .u64 0, .int .u64 0, .int .u64 0, .int .u64 0, .int .u64 0, .int .u64 0, .int .u64 0, .int .u64 0, .int .u64 0, .int .u64 0, .int .u64 0, .int .u64 0, .int .u64 0, .int .u64 0, .int .u64 0] (numC (numF (valF a % P25)))
  go_wp2_with (first
    | ((with_reducible show wpList _ _ _ (⟨none, Op.store 43 _ _, _, _, _, _⟩ :: _) _ _); refine wpList_store_row rfl 43 (.tmp 14) (.tmp 72) rfl (w8.heap.size) (numC (numF (valF a % P25))) rfl rfl 43 _ (RowC.new _ _ _) (sizeNum _) (num_zero _) (one_num _) ?_)
    | ((with_reducible show wpList _ _ _ (⟨some 73, _, _, _, _, _⟩ :: _) _ _); refine wpList_loadC (by kernel_rfl) 37 (.tmp 4) rfl (w.heap.size + 1) rfl 37 (feC b) _ (hP8.get 5 rfl) Try.underlying37 rfl Hsb.out ?_))
  refine (OfN_any b _ Hb.out).mono ?_
  rintro e w9 ⟨rfl, hb9⟩
  have hM9 := hP8.call hb9
  clear hP8 hb9
  have hP9 := hM9.put 43 #[.int .u64 0, .int .u64 0, .int .u64 0, .int .u64 0, .int .u64 0, .int .u64 0, .int .u64 0, .int .u64 0, .int .u64 0, .int .u64 0, .int .u64 0, .int .u64 0, .int .u64 0, .int .u64 0, .int .u64 0, .int .u64 0] (numC (numF (valF b % P25)))
  go_wp2_with ((with_reducible show wpList _ _ _ (⟨none, Op.store 43 _ _, _, _, _, _⟩ :: _) _ _); refine wpList_store_row rfl 43 (.tmp 15) (.tmp 74) rfl (w9.heap.size) (numC (numF (valF b % P25))) rfl rfl 43 _ (RowC.new _ _ _) (sizeNum _) (num_zero _) (one_num _) ?_)
  refine wp_gen (fun wx => Ms w wx [(w9.heap.size, 43, (numC (numF (valF b % P25)))), (w8.heap.size, 43, (numC (numF (valF a % P25)))), (w5.heap.size, 37, (feC (mulQ a b))), (w4.heap.size, 37, (feC (subQ a b))), (w3.heap.size, 37, (feC (addQ a b))), (w.heap.size + 1 + 1, 39, lk.toArray), (w.heap.size + 1, 37, (feC b)), (w.heap.size, 37, (feC a))]) hP9 ?_
  clear hP9
  rintro v1 hMv
  generalize w9.heap.size = gn at *
  generalize w8.heap.size = gm at *
  generalize w5.heap.size = gz at *
  generalize w4.heap.size = gy at *
  generalize w3.heap.size = gx at *
  have hSa := fun wx => Stands_true a (valF a % P25) wx Ha.out rfl
  have hAd := fun wx => AddN_nv (valF a % P25) (valF b % P25) wx (P25_lt _) (P25_lt _)
  have hSu := fun wx => SubN_nv (valF a % P25) (valF b % P25) wx (P25_lt _) (P25_lt _)
  have hMu := fun wx => Mul_nv (valF a % P25) (valF b % P25) wx (P25_lt _) (P25_lt _)
  have hSx := fun wx => Stands_true (addQ a b) ((valF a % P25 + valF b % P25) % P25) wx (addQ_may Ha.out Hb.out) (t_add a b)
  have hSy := fun wx => Stands_true (subQ a b) ((valF a % P25 + (P25 - valF b % P25)) % P25) wx (subQ_may Ha.out Hb.out) (t_sub a Hb.out)
  have hSz := fun wx => Stands_true (mulQ a b) (valF a % P25 * (valF b % P25) % P25) wx (mulQ_may Ha.out Hb.out) (t_mul a b)
  have hSm := fun wx => Same_val a b wx Ha.out Hb.out (valF a % P25 == valF b % P25) rfl
  have hq := fun wx => eql_num wx (valF a % P25) (valF b % P25) (P25_lt _) (P25_lt _)
  have Hsx := Lib.hid (sizeFe (addQ a b))
  have Hsy := Lib.hid (sizeFe (subQ a b))
  have Hsz := Lib.hid (sizeFe (mulQ a b))
  have Hsm := Lib.hid (sizeNum (numF (valF a % P25)))
  have Hsn := Lib.hid (sizeNum (numF (valF b % P25)))
  generalize (valF a % P25 == valF b % P25) = cc at *
  generalize numC (numF ((valF a % P25 + valF b % P25) % P25)) = nAd at *
  generalize numC (numF ((valF a % P25 + (P25 - valF b % P25)) % P25)) = nSu at *
  generalize numC (numF (valF a % P25 * (valF b % P25) % P25)) = nMu at *
  obtain ⟨la, hla⟩ : ∃ l : List Value, l.toArray = feC a := ⟨_, Array.toArray_toList⟩
  obtain ⟨lb, hlb⟩ : ∃ l : List Value, l.toArray = feC b := ⟨_, Array.toArray_toList⟩
  obtain ⟨lx, hlx⟩ : ∃ l : List Value, l.toArray = feC (addQ a b) := ⟨_, Array.toArray_toList⟩
  obtain ⟨ly, hly⟩ : ∃ l : List Value, l.toArray = feC (subQ a b) := ⟨_, Array.toArray_toList⟩
  obtain ⟨lz, hlz⟩ : ∃ l : List Value, l.toArray = feC (mulQ a b) := ⟨_, Array.toArray_toList⟩
  obtain ⟨lm, hlm⟩ : ∃ l : List Value, l.toArray = numC (numF (valF a % P25)) := ⟨_, Array.toArray_toList⟩
  obtain ⟨ln, hln⟩ : ∃ l : List Value, l.toArray = numC (numF (valF b % P25)) := ⟨_, Array.toArray_toList⟩
  rw [← hlm] at hMv hSa hAd hSu hMu hq Hsm
  rw [← hln] at hMv hAd hSu hMu hq Hsn
  rw [← hla] at hMv hSa hSm Hsa
  rw [← hlb] at hMv hSm Hsb
  rw [← hlx] at hMv hSx Hsx
  rw [← hly] at hMv hSy Hsy
  rw [← hlz] at hMv hSz Hsz
  generalize feC a = fa' at *
  generalize feC b = fb' at *
  clear hla hlb hlx hly hlz hlm hln
  have hkeep : ∀ wx : World, Below v1.heap.size v1 wx → wx.rangeAt gn 0 ln ∧ wx.rangeAt gm 0 lm ∧ wx.rangeAt gz 0 lz ∧ wx.rangeAt gy 0 ly ∧ wx.rangeAt gx 0 lx ∧ wx.rangeAt (w.heap.size + 1) 0 lb ∧ wx.rangeAt w.heap.size 0 la := fun wx hb => ⟨((hMv.get 0 rfl).call hb).range, ((hMv.get 1 rfl).call hb).range, ((hMv.get 2 rfl).call hb).range, ((hMv.get 3 rfl).call hb).range, ((hMv.get 4 rfl).call hb).range, ((hMv.get 6 rfl).call hb).range, ((hMv.get 7 rfl).call hb).range⟩
  have huf := Try.underlying37
  have hun := Try.underlying43
  have hiln := Hsn.out
  have hilm := Hsm.out
  have hilz := Hsz.out
  have hily := Hsy.out
  have hilx := Hsx.out
  have hilb := Hsb.out
  have hila := Hsa.out
  simp only [List.size_toArray] at hiln hilm hilz hily hilx hilb hila
  refine beginT (fun wx => wx.rangeAt gn 0 ln ∧ wx.rangeAt gm 0 lm ∧ wx.rangeAt gz 0 lz ∧ wx.rangeAt gy 0 ly ∧ wx.rangeAt gx 0 lx ∧ wx.rangeAt (w.heap.size + 1) 0 lb ∧ wx.rangeAt w.heap.size 0 la) 39 (by kernel_rfl) ?_
  have hS := hkeep _ (c_drew (c_refl _))
  refine takeD 0 (some 75) (.bool true) rfl rfl (by kernel_rfl) (by kernel_rfl) (by kernel_rfl) (by kernel_rfl) (fun _ _ _ h => h) (Or.inl ⟨by kernel_rfl, fun wx hSw => by go_simp⟩) hS ?_
  simp only [Act.put, List.setIfInBounds_toArray, List.set_cons_zero, List.set_cons_succ]
  refine takeD 1 (some 76) (.bool true) rfl rfl (by kernel_rfl) (by kernel_rfl) (by kernel_rfl) (by kernel_rfl) (fun _ _ _ h => h) (Or.inl ⟨by kernel_rfl, fun wx hSw => by go_simp⟩) hS ?_
  simp only [Act.put, List.setIfInBounds_toArray, List.set_cons_zero, List.set_cons_succ]
  refine loadT 2 (some 77) 37 (.tmp 3) w.heap.size 0 la rfl rfl (by kernel_rfl) (by kernel_rfl) (by kernel_rfl) (by kernel_rfl) rfl (by kernel_rfl) rfl (fun wx hSw => hSw.2.2.2.2.2.2) huf rfl hila (fun _ _ _ h => h) hS ?_
  simp only [Act.put, List.setIfInBounds_toArray, List.set_cons_zero, List.set_cons_succ]
  refine loadT 3 (some 78) 43 (.tmp 14) gm 0 lm rfl rfl (by kernel_rfl) (by kernel_rfl) (by kernel_rfl) (by kernel_rfl) rfl (by kernel_rfl) rfl (fun wx hSw => hSw.2.1) hun rfl hilm (fun _ _ _ h => h) hS ?_
  simp only [Act.put, List.setIfInBounds_toArray, List.set_cons_zero, List.set_cons_succ]
  refine oneT 4 (by kernel_rfl) rfl (fun K hK => ?_)
  go_simp
  refine (hSa _).mono ?_
  rintro e x1 ⟨rfl, hx1⟩
  refine hK.out _ _ (fun _ => hkeep _ (by (repeat (first | exact c_refl _ | refine c_drew ?_ | refine c_alloc ?_ _ | refine c_row ?_ (by first | omega | exact Nat.le_refl _) _ | refine c_call ?_ (by assumption))); first | done | fail "open")) ?_
  clear hK K
  have hS1 := hkeep x1 (by (repeat (first | exact c_refl _ | refine c_drew ?_ | refine c_alloc ?_ _ | refine c_row ?_ (by first | omega | exact Nat.le_refl _) _ | refine c_call ?_ (by assumption))); first | done | fail "open")
  refine takeD 5 (some 80) (.bool true) rfl rfl (by kernel_rfl) (by kernel_rfl) (by kernel_rfl) (by kernel_rfl) (fun _ _ _ h => h) (Or.inl ⟨by kernel_rfl, fun wx hSw => by go_simp⟩) hS1 ?_
  simp only [Act.put, List.setIfInBounds_toArray, List.set_cons_zero, List.set_cons_succ]
  refine takeD 6 (some 81) (.bool true) rfl rfl (by kernel_rfl) (by kernel_rfl) (by kernel_rfl) (by kernel_rfl) (fun _ _ _ h => h) (Or.inl ⟨by kernel_rfl, fun wx hSw => by go_simp⟩) hS1 ?_
  simp only [Act.put, List.setIfInBounds_toArray, List.set_cons_zero, List.set_cons_succ]
  refine loadT 7 (some 82) 37 (.tmp 8) gx 0 lx rfl rfl (by kernel_rfl) (by kernel_rfl) (by kernel_rfl) (by kernel_rfl) rfl (by kernel_rfl) rfl (fun wx hSw => hSw.2.2.2.2.1) huf rfl hilx (fun _ _ _ h => h) hS1 ?_
  simp only [Act.put, List.setIfInBounds_toArray, List.set_cons_zero, List.set_cons_succ]
  refine takeD 8 (some 83) (.int .i64 0) rfl rfl (by kernel_rfl) (by kernel_rfl) (by kernel_rfl) (by kernel_rfl) (fun _ _ _ h => h) (Or.inl ⟨by kernel_rfl, fun wx hSw => by go_simp⟩) hS1 ?_
  simp only [Act.put, List.setIfInBounds_toArray, List.set_cons_zero, List.set_cons_succ]
  refine loadT 9 (some 84) 43 (.tmp 14) gm 0 lm rfl rfl (by kernel_rfl) (by kernel_rfl) (by kernel_rfl) (by kernel_rfl) rfl (by kernel_rfl) rfl (fun wx hSw => hSw.2.1) hun rfl hilm (fun _ _ _ h => h) hS1 ?_
  simp only [Act.put, List.setIfInBounds_toArray, List.set_cons_zero, List.set_cons_succ]
  refine loadT 10 (some 85) 43 (.tmp 15) gn 0 ln rfl rfl (by kernel_rfl) (by kernel_rfl) (by kernel_rfl) (by kernel_rfl) rfl (by kernel_rfl) rfl (fun wx hSw => hSw.1) hun rfl hiln (fun _ _ _ h => h) hS1 ?_
  simp only [Act.put, List.setIfInBounds_toArray, List.set_cons_zero, List.set_cons_succ]
  refine oneT 11 (by kernel_rfl) rfl (fun K hK => ?_)
  go_simp
  refine (hAd _).mono ?_
  rintro e x2 ⟨rfl, hx2⟩
  refine hK.out _ _ (fun _ => hkeep _ (by (repeat (first | exact c_refl _ | refine c_drew ?_ | refine c_alloc ?_ _ | refine c_row ?_ (by first | omega | exact Nat.le_refl _) _ | refine c_call ?_ (by assumption))); first | done | fail "open")) ?_
  clear hK K
  refine oneT 12 (by kernel_rfl) rfl (fun K hK => ?_)
  go_simp
  refine (hSx _).mono ?_
  rintro e x3 ⟨rfl, hx3⟩
  refine hK.out _ _ (fun _ => hkeep _ (by (repeat (first | exact c_refl _ | refine c_drew ?_ | refine c_alloc ?_ _ | refine c_row ?_ (by first | omega | exact Nat.le_refl _) _ | refine c_call ?_ (by assumption))); first | done | fail "open")) ?_
  clear hK K
  have hS3 := hkeep x3 (by (repeat (first | exact c_refl _ | refine c_drew ?_ | refine c_alloc ?_ _ | refine c_row ?_ (by first | omega | exact Nat.le_refl _) _ | refine c_call ?_ (by assumption))); first | done | fail "open")
  refine takeD 13 (some 88) (.bool true) rfl rfl (by kernel_rfl) (by kernel_rfl) (by kernel_rfl) (by kernel_rfl) (fun _ _ _ h => h) (Or.inl ⟨by kernel_rfl, fun wx hSw => by go_simp⟩) hS3 ?_
  simp only [Act.put, List.setIfInBounds_toArray, List.set_cons_zero, List.set_cons_succ]
  refine takeD 14 (some 89) (.bool true) rfl rfl (by kernel_rfl) (by kernel_rfl) (by kernel_rfl) (by kernel_rfl) (fun _ _ _ h => h) (Or.inl ⟨by kernel_rfl, fun wx hSw => by go_simp⟩) hS3 ?_
  simp only [Act.put, List.setIfInBounds_toArray, List.set_cons_zero, List.set_cons_succ]
  refine loadT 15 (some 90) 37 (.tmp 10) gy 0 ly rfl rfl (by kernel_rfl) (by kernel_rfl) (by kernel_rfl) (by kernel_rfl) rfl (by kernel_rfl) rfl (fun wx hSw => hSw.2.2.2.1) huf rfl hily (fun _ _ _ h => h) hS3 ?_
  simp only [Act.put, List.setIfInBounds_toArray, List.set_cons_zero, List.set_cons_succ]
  refine takeD 16 (some 91) (.int .i64 0) rfl rfl (by kernel_rfl) (by kernel_rfl) (by kernel_rfl) (by kernel_rfl) (fun _ _ _ h => h) (Or.inl ⟨by kernel_rfl, fun wx hSw => by go_simp⟩) hS3 ?_
  simp only [Act.put, List.setIfInBounds_toArray, List.set_cons_zero, List.set_cons_succ]
  refine loadT 17 (some 92) 43 (.tmp 14) gm 0 lm rfl rfl (by kernel_rfl) (by kernel_rfl) (by kernel_rfl) (by kernel_rfl) rfl (by kernel_rfl) rfl (fun wx hSw => hSw.2.1) hun rfl hilm (fun _ _ _ h => h) hS3 ?_
  simp only [Act.put, List.setIfInBounds_toArray, List.set_cons_zero, List.set_cons_succ]
  refine loadT 18 (some 93) 43 (.tmp 15) gn 0 ln rfl rfl (by kernel_rfl) (by kernel_rfl) (by kernel_rfl) (by kernel_rfl) rfl (by kernel_rfl) rfl (fun wx hSw => hSw.1) hun rfl hiln (fun _ _ _ h => h) hS3 ?_
  simp only [Act.put, List.setIfInBounds_toArray, List.set_cons_zero, List.set_cons_succ]
  refine oneT 19 (by kernel_rfl) rfl (fun K hK => ?_)
  go_simp
  refine (hSu _).mono ?_
  rintro e x4 ⟨rfl, hx4⟩
  refine hK.out _ _ (fun _ => hkeep _ (by (repeat (first | exact c_refl _ | refine c_drew ?_ | refine c_alloc ?_ _ | refine c_row ?_ (by first | omega | exact Nat.le_refl _) _ | refine c_call ?_ (by assumption))); first | done | fail "open")) ?_
  clear hK K
  refine oneT 20 (by kernel_rfl) rfl (fun K hK => ?_)
  go_simp
  refine (hSy _).mono ?_
  rintro e x5 ⟨rfl, hx5⟩
  refine hK.out _ _ (fun _ => hkeep _ (by (repeat (first | exact c_refl _ | refine c_drew ?_ | refine c_alloc ?_ _ | refine c_row ?_ (by first | omega | exact Nat.le_refl _) _ | refine c_call ?_ (by assumption))); first | done | fail "open")) ?_
  clear hK K
  have hS5 := hkeep x5 (by (repeat (first | exact c_refl _ | refine c_drew ?_ | refine c_alloc ?_ _ | refine c_row ?_ (by first | omega | exact Nat.le_refl _) _ | refine c_call ?_ (by assumption))); first | done | fail "open")
  refine takeD 21 (some 96) (.bool true) rfl rfl (by kernel_rfl) (by kernel_rfl) (by kernel_rfl) (by kernel_rfl) (fun _ _ _ h => h) (Or.inl ⟨by kernel_rfl, fun wx hSw => by go_simp⟩) hS5 ?_
  simp only [Act.put, List.setIfInBounds_toArray, List.set_cons_zero, List.set_cons_succ]
  refine takeD 22 (some 97) (.bool true) rfl rfl (by kernel_rfl) (by kernel_rfl) (by kernel_rfl) (by kernel_rfl) (fun _ _ _ h => h) (Or.inl ⟨by kernel_rfl, fun wx hSw => by go_simp⟩) hS5 ?_
  simp only [Act.put, List.setIfInBounds_toArray, List.set_cons_zero, List.set_cons_succ]
  refine loadT 23 (some 98) 37 (.tmp 12) gz 0 lz rfl rfl (by kernel_rfl) (by kernel_rfl) (by kernel_rfl) (by kernel_rfl) rfl (by kernel_rfl) rfl (fun wx hSw => hSw.2.2.1) huf rfl hilz (fun _ _ _ h => h) hS5 ?_
  simp only [Act.put, List.setIfInBounds_toArray, List.set_cons_zero, List.set_cons_succ]
  refine takeD 24 (some 99) (.int .i64 0) rfl rfl (by kernel_rfl) (by kernel_rfl) (by kernel_rfl) (by kernel_rfl) (fun _ _ _ h => h) (Or.inl ⟨by kernel_rfl, fun wx hSw => by go_simp⟩) hS5 ?_
  simp only [Act.put, List.setIfInBounds_toArray, List.set_cons_zero, List.set_cons_succ]
  refine loadT 25 (some 100) 43 (.tmp 14) gm 0 lm rfl rfl (by kernel_rfl) (by kernel_rfl) (by kernel_rfl) (by kernel_rfl) rfl (by kernel_rfl) rfl (fun wx hSw => hSw.2.1) hun rfl hilm (fun _ _ _ h => h) hS5 ?_
  simp only [Act.put, List.setIfInBounds_toArray, List.set_cons_zero, List.set_cons_succ]
  refine loadT 26 (some 101) 43 (.tmp 15) gn 0 ln rfl rfl (by kernel_rfl) (by kernel_rfl) (by kernel_rfl) (by kernel_rfl) rfl (by kernel_rfl) rfl (fun wx hSw => hSw.1) hun rfl hiln (fun _ _ _ h => h) hS5 ?_
  simp only [Act.put, List.setIfInBounds_toArray, List.set_cons_zero, List.set_cons_succ]
  refine oneT 27 (by kernel_rfl) rfl (fun K hK => ?_)
  go_simp
  refine (hMu _).mono ?_
  rintro e x6 ⟨rfl, hx6⟩
  refine hK.out _ _ (fun _ => hkeep _ (by (repeat (first | exact c_refl _ | refine c_drew ?_ | refine c_alloc ?_ _ | refine c_row ?_ (by first | omega | exact Nat.le_refl _) _ | refine c_call ?_ (by assumption))); first | done | fail "open")) ?_
  clear hK K
  refine oneT 28 (by kernel_rfl) rfl (fun K hK => ?_)
  go_simp
  refine (hSz _).mono ?_
  rintro e x7 ⟨rfl, hx7⟩
  refine hK.out _ _ (fun _ => hkeep _ (by (repeat (first | exact c_refl _ | refine c_drew ?_ | refine c_alloc ?_ _ | refine c_row ?_ (by first | omega | exact Nat.le_refl _) _ | refine c_call ?_ (by assumption))); first | done | fail "open")) ?_
  clear hK K
  have hS7 := hkeep x7 (by (repeat (first | exact c_refl _ | refine c_drew ?_ | refine c_alloc ?_ _ | refine c_row ?_ (by first | omega | exact Nat.le_refl _) _ | refine c_call ?_ (by assumption))); first | done | fail "open")
  refine takeD 29 (some 104) (.bool true) rfl rfl (by kernel_rfl) (by kernel_rfl) (by kernel_rfl) (by kernel_rfl) (fun _ _ _ h => h) (Or.inl ⟨by kernel_rfl, fun wx hSw => by go_simp⟩) hS7 ?_
  simp only [Act.put, List.setIfInBounds_toArray, List.set_cons_zero, List.set_cons_succ]
  refine takeD 30 (some 105) (.bool true) rfl rfl (by kernel_rfl) (by kernel_rfl) (by kernel_rfl) (by kernel_rfl) (fun _ _ _ h => h) (Or.inl ⟨by kernel_rfl, fun wx hSw => by go_simp⟩) hS7 ?_
  simp only [Act.put, List.setIfInBounds_toArray, List.set_cons_zero, List.set_cons_succ]
  refine loadT 31 (some 106) 37 (.tmp 3) w.heap.size 0 la rfl rfl (by kernel_rfl) (by kernel_rfl) (by kernel_rfl) (by kernel_rfl) rfl (by kernel_rfl) rfl (fun wx hSw => hSw.2.2.2.2.2.2) huf rfl hila (fun _ _ _ h => h) hS7 ?_
  simp only [Act.put, List.setIfInBounds_toArray, List.set_cons_zero, List.set_cons_succ]
  refine loadT 32 (some 107) 37 (.tmp 4) (w.heap.size + 1) 0 lb rfl rfl (by kernel_rfl) (by kernel_rfl) (by kernel_rfl) (by kernel_rfl) rfl (by kernel_rfl) rfl (fun wx hSw => hSw.2.2.2.2.2.1) huf rfl hilb (fun _ _ _ h => h) hS7 ?_
  simp only [Act.put, List.setIfInBounds_toArray, List.set_cons_zero, List.set_cons_succ]
  refine loadT 34 (some 109) 43 (.tmp 14) gm 0 lm rfl rfl (by kernel_rfl) (by kernel_rfl) (by kernel_rfl) (by kernel_rfl) rfl (by kernel_rfl) rfl (fun wx hSw => hSw.2.1) hun rfl hilm (fun _ _ _ h => h) hS7 ?_
  simp only [Act.put, List.setIfInBounds_toArray, List.set_cons_zero, List.set_cons_succ]
  refine loadT 35 (some 110) 43 (.tmp 15) gn 0 ln rfl rfl (by kernel_rfl) (by kernel_rfl) (by kernel_rfl) (by kernel_rfl) rfl (by kernel_rfl) rfl (fun wx hSw => hSw.1) hun rfl hiln (fun _ _ _ h => h) hS7 ?_
  simp only [Act.put, List.setIfInBounds_toArray, List.set_cons_zero, List.set_cons_succ]
  refine takeD 36 (some 111) (.bool cc) rfl rfl (by kernel_rfl) (by kernel_rfl) (by kernel_rfl) (by kernel_rfl) (fun _ _ _ h => h) (Or.inl ⟨by kernel_rfl, fun wx hSw => by go_simp⟩) hS7 ?_
  simp only [Act.put, List.setIfInBounds_toArray, List.set_cons_zero, List.set_cons_succ]
  refine oneT 33 (by kernel_rfl) rfl (fun K hK => ?_)
  go_simp
  refine (hSm _).mono ?_
  rintro e x8 ⟨rfl, hx8⟩
  refine hK.out _ _ (fun _ => hkeep _ (by (repeat (first | exact c_refl _ | refine c_drew ?_ | refine c_alloc ?_ _ | refine c_row ?_ (by first | omega | exact Nat.le_refl _) _ | refine c_call ?_ (by assumption))); first | done | fail "open")) ?_
  clear hK K
  have hS8 := hkeep x8 (by (repeat (first | exact c_refl _ | refine c_drew ?_ | refine c_alloc ?_ _ | refine c_row ?_ (by first | omega | exact Nat.le_refl _) _ | refine c_call ?_ (by assumption))); first | done | fail "open")
  refine takeD 37 (some 112) (.bool true) rfl rfl (by kernel_rfl) (by kernel_rfl) (by kernel_rfl) (by kernel_rfl) (fun _ _ _ h => h) (Or.inl ⟨by kernel_rfl, fun wx hSw => by go_simp⟩) hS8 ?_
  simp only [Act.put, List.setIfInBounds_toArray, List.set_cons_zero, List.set_cons_succ]
  refine takeD 38 (some 113) (.bool true) rfl rfl (by kernel_rfl) (by kernel_rfl) (by kernel_rfl) (by kernel_rfl) (fun _ _ _ h => h) (Or.inl ⟨by kernel_rfl, fun wx hSw => by go_simp⟩) hS8 ?_
  simp only [Act.put, List.setIfInBounds_toArray, List.set_cons_zero, List.set_cons_succ]
  refine oneT 39 (by kernel_rfl) rfl (fun K hK => ?_)
  go_simp
  refine hK.out _ _ (fun h => absurd rfl h) ?_
  clear hK K
  refine doneT (by kernel_rfl) ?_ _
  have hE : Below v1.heap.size v1 x8 := (by (repeat (first | exact c_refl _ | refine c_drew ?_ | refine c_alloc ?_ _ | refine c_row ?_ (by first | omega | exact Nat.le_refl _) _ | refine c_call ?_ (by assumption))); first | done | fail "open")
  go_wp2_with fail
  go_ret
  exact ⟨rfl, (hMv.call hE).old⟩

set_option maxRecDepth 1000000 in
set_option maxHeartbeats 8000000 in
theorem walk_FeReckons_b (a b : Fe5) (k : List UInt8) (w : World) (ha : WordF a) (hb : WordF b) (hk : k.length = 32) (hma : MayF a) (hmb : ¬ MayF b) :
    Calls Try.prog 4 #[.agg (feC a), .agg (feC b), .agg (keyC k)] w fun e w' => e = .returned (.bool true) ∧ Below w.heap.size w w' := by
  have hM0 := (((Ms.nil w).box 37 (feC a)).box 37 (feC b)).box 39 (keyC k)
  simp only [World.size_alloc] at hM0
  have hst := fun wx => Stands_true (ofU k) (keyV k % 57896044618658097711785492504343953926634992332820282019728792003956564819968 % P25) wx (ofU_may k) (by rw [ofU_val])
  have hof := fun wx => Of_any k wx hk
  have hfk := fun wx => FromKey_any k wx hk
  have Hsk := Lib.hid (sizeKey hk)
  generalize numC (numF (keyV k % 57896044618658097711785492504343953926634992332820282019728792003956564819968 % P25)) = nk at *
  generalize feC (ofU k) = fk at *
  obtain ⟨lk, hlk⟩ : ∃ l : List Value, l.toArray = keyC k := ⟨_, Array.toArray_toList⟩
  rw [← hlk] at hM0 hof hfk Hsk ⊢
  clear hlk
  go_enter Try.func4, Try.ntmps4
  go_wp2_with fail
  refine (live05 _).mono ?_
  rintro e w1 ⟨rfl, hb1⟩
  have hM1 := hM0.call hb1
  clear hM0 hb1
  go_wp2_with fail
  have hkeep : ∀ wx : World, Below w1.heap.size w1 wx → wx.rangeAt (w.heap.size + 1 + 1) 0 lk := fun wx hb => ((hM1.get 0 rfl).call hb).range
  have huk := Try.underlying39
  have hik := Hsk.out
  refine beginT (fun wx => wx.rangeAt (w.heap.size + 1 + 1) 0 lk) 6 (by kernel_rfl) ?_
  have hS := hkeep _ (c_drew (c_refl _))
  refine loadT 0 (some 17) 39 (.tmp 5) (w.heap.size + 1 + 1) 0 lk rfl rfl (by kernel_rfl) (by kernel_rfl) (by kernel_rfl) (by kernel_rfl) rfl (by kernel_rfl) rfl (fun wx hSw => hSw) huk rfl hik (fun _ _ _ h => h) hS ?_
  simp only [Act.put, List.setIfInBounds_toArray, List.set_cons_zero, List.set_cons_succ]
  refine loadT 2 (some 19) 39 (.tmp 5) (w.heap.size + 1 + 1) 0 lk rfl rfl (by kernel_rfl) (by kernel_rfl) (by kernel_rfl) (by kernel_rfl) rfl (by kernel_rfl) rfl (fun wx hSw => hSw) huk rfl hik (fun _ _ _ h => h) hS ?_
  simp only [Act.put, List.setIfInBounds_toArray, List.set_cons_zero, List.set_cons_succ]
  refine oneT 1 (by kernel_rfl) rfl (fun K hK => ?_)
  go_simp
  refine (hof _).mono ?_
  rintro e wa ⟨rfl, hba⟩
  refine hK.out _ _ (fun _ => hkeep _ (by (repeat (first | exact c_refl _ | refine c_drew ?_ | refine c_alloc ?_ _ | refine c_row ?_ (by first | omega | exact Nat.le_refl _) _ | refine c_call ?_ (by assumption))); first | done | fail "open")) ?_
  clear hK K
  refine oneT 3 (by kernel_rfl) rfl (fun K hK => ?_)
  go_simp
  refine (hfk _).mono ?_
  rintro e wb ⟨rfl, hbb⟩
  refine hK.out _ _ (fun _ => hkeep _ (by (repeat (first | exact c_refl _ | refine c_drew ?_ | refine c_alloc ?_ _ | refine c_row ?_ (by first | omega | exact Nat.le_refl _) _ | refine c_call ?_ (by assumption))); first | done | fail "open")) ?_
  clear hK K
  refine oneT 4 (by kernel_rfl) rfl (fun K hK => ?_)
  go_simp
  refine (hst _).mono ?_
  rintro e wc ⟨rfl, hbc⟩
  refine hK.out _ _ (fun _ => hkeep _ (by (repeat (first | exact c_refl _ | refine c_drew ?_ | refine c_alloc ?_ _ | refine c_row ?_ (by first | omega | exact Nat.le_refl _) _ | refine c_call ?_ (by assumption))); first | done | fail "open")) ?_
  clear hK K
  have hE : Below w1.heap.size w1 wc := (by (repeat (first | exact c_refl _ | refine c_drew ?_ | refine c_alloc ?_ _ | refine c_row ?_ (by first | omega | exact Nat.le_refl _) _ | refine c_call ?_ (by assumption))); first | done | fail "open")
  have hS2 := hkeep wc hE
  refine takeD 5 (some 22) (.bool false) rfl rfl (by kernel_rfl) (by kernel_rfl) (by kernel_rfl) (by kernel_rfl) (fun _ _ _ h => h) (Or.inl ⟨by kernel_rfl, fun wx hSw => by go_simp⟩) hS2 ?_
  simp only [Act.put, List.setIfInBounds_toArray, List.set_cons_zero, List.set_cons_succ]
  refine doneT (by kernel_rfl) ?_ _
  have hM2 := hM1.call hE
  clear hkeep hS hS2 hE hM1 hst hof hfk hik huk Hsk hbc hbb hba
  have Hsa := Lib.hid (sizeFe a)
  have Hsb := Lib.hid (sizeFe b)
  have Hw := Lib.hid ha
  have Hwb := Lib.hid hb
  clear ha hb hk
  have Ha := Lib.hid hma
  have Hn := Lib.hid hmb
  clear hma hmb
  have hno := None_true
  have Hsz0 := Lib.hid (sizeFe zeroF)
  have Hoz := Lib.hid (one_fe zeroF)
  have Hzz := Lib.hid (fe_zero zeroF)
  have hcAdd := fun wx => Add_bad2 a b wx Hw.out Hwb.out Ha.out Hn.out
  have hcSub := fun wx => Sub_bad2 a b wx Hw.out Hwb.out Ha.out Hn.out
  have hcMul := fun wx => Mul_bad2 a b wx Hw.out Hwb.out Ha.out Hn.out
  have hsm := fun wx => FeSame_any a b wx Hw.out Hwb.out
  rw [show sameU a b = false by rw [sameU, mayB_false Hn.out]; simp] at hsm
  generalize feC zeroF = zf at *
  go_wp2_with (first
    | ((with_reducible show wpList _ _ _ (⟨some 24, _, _, _, _, _⟩ :: _) _ _); refine wpList_loadC (by kernel_rfl) 37 (.tmp 3) rfl (w.heap.size) rfl 37 (feC a) _ (hM2.get 2 rfl) Try.underlying37 rfl Hsa.out ?_)
    | ((with_reducible show wpList _ _ _ (⟨some 25, _, _, _, _, _⟩ :: _) _ _); refine wpList_loadC (by kernel_rfl) 37 (.tmp 4) rfl (w.heap.size + 1) rfl 37 (feC b) _ (hM2.get 1 rfl) Try.underlying37 rfl Hsb.out ?_))
  refine (hcAdd _).mono ?_
  rintro e w3 ⟨rfl, hb3⟩
  have hM3 := hM2.call hb3
  clear hM2 hb3
  have hP3 := hM3.put 37 #[.int .u64 0, .int .u64 0, .int .u64 0, .int .u64 0, .int .u64 0] zf
  go_wp2_with (first
    | ((with_reducible show wpList _ _ _ (⟨none, Op.store 37 _ _, _, _, _, _⟩ :: _) _ _); refine wpList_store_row rfl 37 (.tmp 8) (.tmp 27) rfl (w3.heap.size) zf rfl rfl 37 _ (RowC.new _ _ _) Hsz0.out Hzz.out Hoz.out ?_)
    | ((with_reducible show wpList _ _ _ (⟨some 30, _, _, _, _, _⟩ :: _) _ _); refine wpList_loadC (by kernel_rfl) 37 (.tmp 3) rfl (w.heap.size) rfl 37 (feC a) _ (hP3.get 3 rfl) Try.underlying37 rfl Hsa.out ?_)
    | ((with_reducible show wpList _ _ _ (⟨some 31, _, _, _, _, _⟩ :: _) _ _); refine wpList_loadC (by kernel_rfl) 37 (.tmp 4) rfl (w.heap.size + 1) rfl 37 (feC b) _ (hP3.get 2 rfl) Try.underlying37 rfl Hsb.out ?_))
  refine (hcSub _).mono ?_
  rintro e w4 ⟨rfl, hb4⟩
  have hM4 := hP3.call hb4
  clear hP3 hb4
  have hP4 := hM4.put 37 #[.int .u64 0, .int .u64 0, .int .u64 0, .int .u64 0, .int .u64 0] zf
  go_wp2_with (first
    | ((with_reducible show wpList _ _ _ (⟨none, Op.store 37 _ _, _, _, _, _⟩ :: _) _ _); refine wpList_store_row rfl 37 (.tmp 10) (.tmp 33) rfl (w4.heap.size) zf rfl rfl 37 _ (RowC.new _ _ _) Hsz0.out Hzz.out Hoz.out ?_)
    | ((with_reducible show wpList _ _ _ (⟨some 36, _, _, _, _, _⟩ :: _) _ _); refine wpList_loadC (by kernel_rfl) 37 (.tmp 3) rfl (w.heap.size) rfl 37 (feC a) _ (hP4.get 4 rfl) Try.underlying37 rfl Hsa.out ?_)
    | ((with_reducible show wpList _ _ _ (⟨some 37, _, _, _, _, _⟩ :: _) _ _); refine wpList_loadC (by kernel_rfl) 37 (.tmp 4) rfl (w.heap.size + 1) rfl 37 (feC b) _ (hP4.get 3 rfl) Try.underlying37 rfl Hsb.out ?_))
  refine (hcMul _).mono ?_
  rintro e w5 ⟨rfl, hb5⟩
  have hM5 := hP4.call hb5
  clear hP4 hb5
  have hP5 := hM5.put 37 #[.int .u64 0, .int .u64 0, .int .u64 0, .int .u64 0, .int .u64 0] zf
  go_wp2_with (first
    | ((with_reducible show wpList _ _ _ (⟨none, Op.store 37 _ _, _, _, _, _⟩ :: _) _ _); refine wpList_store_row rfl 37 (.tmp 12) (.tmp 39) rfl (w5.heap.size) zf rfl rfl 37 _ (RowC.new _ _ _) Hsz0.out Hzz.out Hoz.out ?_)
    | ((with_reducible show wpList _ _ _ (⟨some 41, _, _, _, _, _⟩ :: _) _ _); refine wpList_loadC (by kernel_rfl) 37 (.tmp 3) rfl (w.heap.size) rfl 37 (feC a) _ (hP5.get 5 rfl) Try.underlying37 rfl Hsa.out ?_))
  refine (May_true a _ Ha.out).mono ?_
  rintro e w6 ⟨rfl, hb6⟩
  have hM6 := hP5.call hb6
  clear hP5 hb6
  go_wp2_with ((with_reducible show wpList _ _ _ (⟨some 45, _, _, _, _, _⟩ :: _) _ _); refine wpList_loadC (by kernel_rfl) 37 (.tmp 4) rfl (w.heap.size + 1) rfl 37 (feC b) _ (hM6.get 4 rfl) Try.underlying37 rfl Hsb.out ?_)
  refine (May_false b _ Hwb.out Hn.out).mono ?_
  rintro e w7 ⟨rfl, hb7⟩
  have hM7 := hM6.call hb7
  clear hM6 hb7
  go_wp2_with ((with_reducible show wpList _ _ _ (⟨some 51, _, _, _, _, _⟩ :: _) _ _); refine wpList_loadC (by kernel_rfl) 37 (.tmp 8) rfl (w3.heap.size) rfl 37 zf _ (hM7.get 2 rfl) Try.underlying37 rfl Hsz0.out ?_)
  refine (hno _).mono ?_
  rintro e w8 ⟨rfl, hb8⟩
  have hM8 := hM7.call hb8
  clear hM7 hb8
  go_wp2_with ((with_reducible show wpList _ _ _ (⟨some 56, _, _, _, _, _⟩ :: _) _ _); refine wpList_loadC (by kernel_rfl) 37 (.tmp 10) rfl (w4.heap.size) rfl 37 zf _ (hM8.get 1 rfl) Try.underlying37 rfl Hsz0.out ?_)
  refine (hno _).mono ?_
  rintro e w9 ⟨rfl, hb9⟩
  have hM9 := hM8.call hb9
  clear hM8 hb9
  go_wp2_with ((with_reducible show wpList _ _ _ (⟨some 61, _, _, _, _, _⟩ :: _) _ _); refine wpList_loadC (by kernel_rfl) 37 (.tmp 12) rfl (w5.heap.size) rfl 37 zf _ (hM9.get 0 rfl) Try.underlying37 rfl Hsz0.out ?_)
  refine (hno _).mono ?_
  rintro e w10 ⟨rfl, hb10⟩
  have hM10 := hM9.call hb10
  clear hM9 hb10
  go_wp2_with (first
    | ((with_reducible show wpList _ _ _ (⟨some 66, _, _, _, _, _⟩ :: _) _ _); refine wpList_loadC (by kernel_rfl) 37 (.tmp 3) rfl (w.heap.size) rfl 37 (feC a) _ (hM10.get 5 rfl) Try.underlying37 rfl Hsa.out ?_)
    | ((with_reducible show wpList _ _ _ (⟨some 67, _, _, _, _, _⟩ :: _) _ _); refine wpList_loadC (by kernel_rfl) 37 (.tmp 4) rfl (w.heap.size + 1) rfl 37 (feC b) _ (hM10.get 4 rfl) Try.underlying37 rfl Hsb.out ?_))
  refine (hsm _).mono ?_
  rintro e w11 ⟨rfl, hb11⟩
  have hM11 := hM10.call hb11
  clear hM10 hb11
  go_wp2_with fail
  go_ret
  exact ⟨rfl, hM11.old⟩

set_option maxRecDepth 1000000 in
set_option maxHeartbeats 8000000 in
theorem walk_FeReckons_a (a b : Fe5) (k : List UInt8) (w : World) (ha : WordF a) (hb : WordF b) (hk : k.length = 32) (hma : ¬ MayF a) :
    Calls Try.prog 4 #[.agg (feC a), .agg (feC b), .agg (keyC k)] w fun e w' => e = .returned (.bool true) ∧ Below w.heap.size w w' := by
  have hM0 := (((Ms.nil w).box 37 (feC a)).box 37 (feC b)).box 39 (keyC k)
  simp only [World.size_alloc] at hM0
  have hst := fun wx => Stands_true (ofU k) (keyV k % 57896044618658097711785492504343953926634992332820282019728792003956564819968 % P25) wx (ofU_may k) (by rw [ofU_val])
  have hof := fun wx => Of_any k wx hk
  have hfk := fun wx => FromKey_any k wx hk
  have Hsk := Lib.hid (sizeKey hk)
  generalize numC (numF (keyV k % 57896044618658097711785492504343953926634992332820282019728792003956564819968 % P25)) = nk at *
  generalize feC (ofU k) = fk at *
  obtain ⟨lk, hlk⟩ : ∃ l : List Value, l.toArray = keyC k := ⟨_, Array.toArray_toList⟩
  rw [← hlk] at hM0 hof hfk Hsk ⊢
  clear hlk
  go_enter Try.func4, Try.ntmps4
  go_wp2_with fail
  refine (live05 _).mono ?_
  rintro e w1 ⟨rfl, hb1⟩
  have hM1 := hM0.call hb1
  clear hM0 hb1
  go_wp2_with fail
  have hkeep : ∀ wx : World, Below w1.heap.size w1 wx → wx.rangeAt (w.heap.size + 1 + 1) 0 lk := fun wx hb => ((hM1.get 0 rfl).call hb).range
  have huk := Try.underlying39
  have hik := Hsk.out
  refine beginT (fun wx => wx.rangeAt (w.heap.size + 1 + 1) 0 lk) 6 (by kernel_rfl) ?_
  have hS := hkeep _ (c_drew (c_refl _))
  refine loadT 0 (some 17) 39 (.tmp 5) (w.heap.size + 1 + 1) 0 lk rfl rfl (by kernel_rfl) (by kernel_rfl) (by kernel_rfl) (by kernel_rfl) rfl (by kernel_rfl) rfl (fun wx hSw => hSw) huk rfl hik (fun _ _ _ h => h) hS ?_
  simp only [Act.put, List.setIfInBounds_toArray, List.set_cons_zero, List.set_cons_succ]
  refine loadT 2 (some 19) 39 (.tmp 5) (w.heap.size + 1 + 1) 0 lk rfl rfl (by kernel_rfl) (by kernel_rfl) (by kernel_rfl) (by kernel_rfl) rfl (by kernel_rfl) rfl (fun wx hSw => hSw) huk rfl hik (fun _ _ _ h => h) hS ?_
  simp only [Act.put, List.setIfInBounds_toArray, List.set_cons_zero, List.set_cons_succ]
  refine oneT 1 (by kernel_rfl) rfl (fun K hK => ?_)
  go_simp
  refine (hof _).mono ?_
  rintro e wa ⟨rfl, hba⟩
  refine hK.out _ _ (fun _ => hkeep _ (by (repeat (first | exact c_refl _ | refine c_drew ?_ | refine c_alloc ?_ _ | refine c_row ?_ (by first | omega | exact Nat.le_refl _) _ | refine c_call ?_ (by assumption))); first | done | fail "open")) ?_
  clear hK K
  refine oneT 3 (by kernel_rfl) rfl (fun K hK => ?_)
  go_simp
  refine (hfk _).mono ?_
  rintro e wb ⟨rfl, hbb⟩
  refine hK.out _ _ (fun _ => hkeep _ (by (repeat (first | exact c_refl _ | refine c_drew ?_ | refine c_alloc ?_ _ | refine c_row ?_ (by first | omega | exact Nat.le_refl _) _ | refine c_call ?_ (by assumption))); first | done | fail "open")) ?_
  clear hK K
  refine oneT 4 (by kernel_rfl) rfl (fun K hK => ?_)
  go_simp
  refine (hst _).mono ?_
  rintro e wc ⟨rfl, hbc⟩
  refine hK.out _ _ (fun _ => hkeep _ (by (repeat (first | exact c_refl _ | refine c_drew ?_ | refine c_alloc ?_ _ | refine c_row ?_ (by first | omega | exact Nat.le_refl _) _ | refine c_call ?_ (by assumption))); first | done | fail "open")) ?_
  clear hK K
  have hE : Below w1.heap.size w1 wc := (by (repeat (first | exact c_refl _ | refine c_drew ?_ | refine c_alloc ?_ _ | refine c_row ?_ (by first | omega | exact Nat.le_refl _) _ | refine c_call ?_ (by assumption))); first | done | fail "open")
  have hS2 := hkeep wc hE
  refine takeD 5 (some 22) (.bool false) rfl rfl (by kernel_rfl) (by kernel_rfl) (by kernel_rfl) (by kernel_rfl) (fun _ _ _ h => h) (Or.inl ⟨by kernel_rfl, fun wx hSw => by go_simp⟩) hS2 ?_
  simp only [Act.put, List.setIfInBounds_toArray, List.set_cons_zero, List.set_cons_succ]
  refine doneT (by kernel_rfl) ?_ _
  have hM2 := hM1.call hE
  clear hkeep hS hS2 hE hM1 hst hof hfk hik huk Hsk hbc hbb hba
  have Hsa := Lib.hid (sizeFe a)
  have Hsb := Lib.hid (sizeFe b)
  have Hw := Lib.hid ha
  have Hwb := Lib.hid hb
  clear ha hb hk
  have Hn := Lib.hid hma
  clear hma
  have hno := None_true
  have Hsz0 := Lib.hid (sizeFe zeroF)
  have Hoz := Lib.hid (one_fe zeroF)
  have Hzz := Lib.hid (fe_zero zeroF)
  have hcAdd := fun wx => Add_bad1 a b wx Hw.out Hwb.out Hn.out
  have hcSub := fun wx => Sub_bad1 a b wx Hw.out Hwb.out Hn.out
  have hcMul := fun wx => Mul_bad1 a b wx Hw.out Hwb.out Hn.out
  have hsm := fun wx => FeSame_any a b wx Hw.out Hwb.out
  rw [show sameU a b = false by rw [sameU, mayB_false Hn.out]; simp] at hsm
  generalize feC zeroF = zf at *
  go_wp2_with (first
    | ((with_reducible show wpList _ _ _ (⟨some 24, _, _, _, _, _⟩ :: _) _ _); refine wpList_loadC (by kernel_rfl) 37 (.tmp 3) rfl (w.heap.size) rfl 37 (feC a) _ (hM2.get 2 rfl) Try.underlying37 rfl Hsa.out ?_)
    | ((with_reducible show wpList _ _ _ (⟨some 25, _, _, _, _, _⟩ :: _) _ _); refine wpList_loadC (by kernel_rfl) 37 (.tmp 4) rfl (w.heap.size + 1) rfl 37 (feC b) _ (hM2.get 1 rfl) Try.underlying37 rfl Hsb.out ?_))
  refine (hcAdd _).mono ?_
  rintro e w3 ⟨rfl, hb3⟩
  have hM3 := hM2.call hb3
  clear hM2 hb3
  have hP3 := hM3.put 37 #[.int .u64 0, .int .u64 0, .int .u64 0, .int .u64 0, .int .u64 0] zf
  go_wp2_with (first
    | ((with_reducible show wpList _ _ _ (⟨none, Op.store 37 _ _, _, _, _, _⟩ :: _) _ _); refine wpList_store_row rfl 37 (.tmp 8) (.tmp 27) rfl (w3.heap.size) zf rfl rfl 37 _ (RowC.new _ _ _) Hsz0.out Hzz.out Hoz.out ?_)
    | ((with_reducible show wpList _ _ _ (⟨some 30, _, _, _, _, _⟩ :: _) _ _); refine wpList_loadC (by kernel_rfl) 37 (.tmp 3) rfl (w.heap.size) rfl 37 (feC a) _ (hP3.get 3 rfl) Try.underlying37 rfl Hsa.out ?_)
    | ((with_reducible show wpList _ _ _ (⟨some 31, _, _, _, _, _⟩ :: _) _ _); refine wpList_loadC (by kernel_rfl) 37 (.tmp 4) rfl (w.heap.size + 1) rfl 37 (feC b) _ (hP3.get 2 rfl) Try.underlying37 rfl Hsb.out ?_))
  refine (hcSub _).mono ?_
  rintro e w4 ⟨rfl, hb4⟩
  have hM4 := hP3.call hb4
  clear hP3 hb4
  have hP4 := hM4.put 37 #[.int .u64 0, .int .u64 0, .int .u64 0, .int .u64 0, .int .u64 0] zf
  go_wp2_with (first
    | ((with_reducible show wpList _ _ _ (⟨none, Op.store 37 _ _, _, _, _, _⟩ :: _) _ _); refine wpList_store_row rfl 37 (.tmp 10) (.tmp 33) rfl (w4.heap.size) zf rfl rfl 37 _ (RowC.new _ _ _) Hsz0.out Hzz.out Hoz.out ?_)
    | ((with_reducible show wpList _ _ _ (⟨some 36, _, _, _, _, _⟩ :: _) _ _); refine wpList_loadC (by kernel_rfl) 37 (.tmp 3) rfl (w.heap.size) rfl 37 (feC a) _ (hP4.get 4 rfl) Try.underlying37 rfl Hsa.out ?_)
    | ((with_reducible show wpList _ _ _ (⟨some 37, _, _, _, _, _⟩ :: _) _ _); refine wpList_loadC (by kernel_rfl) 37 (.tmp 4) rfl (w.heap.size + 1) rfl 37 (feC b) _ (hP4.get 3 rfl) Try.underlying37 rfl Hsb.out ?_))
  refine (hcMul _).mono ?_
  rintro e w5 ⟨rfl, hb5⟩
  have hM5 := hP4.call hb5
  clear hP4 hb5
  have hP5 := hM5.put 37 #[.int .u64 0, .int .u64 0, .int .u64 0, .int .u64 0, .int .u64 0] zf
  go_wp2_with (first
    | ((with_reducible show wpList _ _ _ (⟨none, Op.store 37 _ _, _, _, _, _⟩ :: _) _ _); refine wpList_store_row rfl 37 (.tmp 12) (.tmp 39) rfl (w5.heap.size) zf rfl rfl 37 _ (RowC.new _ _ _) Hsz0.out Hzz.out Hoz.out ?_)
    | ((with_reducible show wpList _ _ _ (⟨some 41, _, _, _, _, _⟩ :: _) _ _); refine wpList_loadC (by kernel_rfl) 37 (.tmp 3) rfl (w.heap.size) rfl 37 (feC a) _ (hP5.get 5 rfl) Try.underlying37 rfl Hsa.out ?_))
  refine (May_false a _ Hw.out Hn.out).mono ?_
  rintro e w6 ⟨rfl, hb6⟩
  have hM6 := hP5.call hb6
  clear hP5 hb6
  go_wp2_with ((with_reducible show wpList _ _ _ (⟨some 51, _, _, _, _, _⟩ :: _) _ _); refine wpList_loadC (by kernel_rfl) 37 (.tmp 8) rfl (w3.heap.size) rfl 37 zf _ (hM6.get 2 rfl) Try.underlying37 rfl Hsz0.out ?_)
  refine (hno _).mono ?_
  rintro e w7 ⟨rfl, hb7⟩
  have hM7 := hM6.call hb7
  clear hM6 hb7
  go_wp2_with ((with_reducible show wpList _ _ _ (⟨some 56, _, _, _, _, _⟩ :: _) _ _); refine wpList_loadC (by kernel_rfl) 37 (.tmp 10) rfl (w4.heap.size) rfl 37 zf _ (hM7.get 1 rfl) Try.underlying37 rfl Hsz0.out ?_)
  refine (hno _).mono ?_
  rintro e w8 ⟨rfl, hb8⟩
  have hM8 := hM7.call hb8
  clear hM7 hb8
  go_wp2_with ((with_reducible show wpList _ _ _ (⟨some 61, _, _, _, _, _⟩ :: _) _ _); refine wpList_loadC (by kernel_rfl) 37 (.tmp 12) rfl (w5.heap.size) rfl 37 zf _ (hM8.get 0 rfl) Try.underlying37 rfl Hsz0.out ?_)
  refine (hno _).mono ?_
  rintro e w9 ⟨rfl, hb9⟩
  have hM9 := hM8.call hb9
  clear hM8 hb9
  go_wp2_with (first
    | ((with_reducible show wpList _ _ _ (⟨some 66, _, _, _, _, _⟩ :: _) _ _); refine wpList_loadC (by kernel_rfl) 37 (.tmp 3) rfl (w.heap.size) rfl 37 (feC a) _ (hM9.get 5 rfl) Try.underlying37 rfl Hsa.out ?_)
    | ((with_reducible show wpList _ _ _ (⟨some 67, _, _, _, _, _⟩ :: _) _ _); refine wpList_loadC (by kernel_rfl) 37 (.tmp 4) rfl (w.heap.size + 1) rfl 37 (feC b) _ (hM9.get 4 rfl) Try.underlying37 rfl Hsb.out ?_))
  refine (hsm _).mono ?_
  rintro e w10 ⟨rfl, hb10⟩
  have hM10 := hM9.call hb10
  clear hM9 hb10
  go_wp2_with fail
  go_ret
  exact ⟨rfl, hM10.old⟩

theorem walk_FeReckons (a b : Fe5) (k : List UInt8) (w : World) (ha : WordF a) (hb : WordF b) (hk : k.length = 32) :
    Calls Try.prog 4 #[.agg (feC a), .agg (feC b), .agg (keyC k)] w fun e w' => e = .returned (.bool true) ∧ Below w.heap.size w w' := by
  by_cases hma : MayF a
  · by_cases hmb : MayF b
    · exact walk_FeReckons_ok a b k w ha hb hk hma hmb
    · exact walk_FeReckons_b a b k w ha hb hk hma hmb
  · exact walk_FeReckons_a a b k w ha hb hk hma

end Go.Proofs.Ytbkdlmneidboaaa
