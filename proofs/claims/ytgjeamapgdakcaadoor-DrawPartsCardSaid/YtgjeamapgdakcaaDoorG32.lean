import Derived.Test.YtgjeamapgdakcaaDoorG21
import Derived.Test.YtgjeamapgdakcaaDoorG31
import Derived.Test.YtgjeamapgdakcaaDoorG29
import Derived.Test.YtgjeamapgdakcaaDoorG17
/-
  CONTRACTS of the document's own Check, New and Next (coterieref09).
-/
set_option linter.unusedVariables false
namespace Go.Proofs.YtgjeamapgdakcaaDoor
open Go.RowKit

theorem results_ccT {P : Program} {fn : Func} {p q r : Tmp} {ty ty' : TypeId} (h : fn.results = #[.cell p ty, .cell q ty', .tmp r]) (tmps : Array Value) (w : World) (g g' : Nat) (t t' : TypeId) (cs cs' : Array Value) (d d' : TypeDesc)
    (hp : tmps.getD p undef = .pointer (some ⟨g, 0, none⟩)) (hg : RowC w g t cs) (hq : tmps.getD q undef = .pointer (some ⟨g', 0, none⟩)) (hg' : RowC w g' t' cs')
    (hu : P.underlying ty = some d) (hd : (match d with | .struct _ | .array _ _ => true | _ => false) = true) (hu' : P.underlying ty' = some d') (hd' : (match d' with | .struct _ | .array _ _ => true | _ => false) = true)
    (hi : (P.info? ty).map (·.size) = some cs.size) (hi' : (P.info? ty').map (·.size) = some cs'.size) :
    (results fn tmps).run P w = .ok (.tuple #[.agg cs, .agg cs', tmps.getD r undef]) w := by
  have hp' : tmps[p]?.getD undef = .pointer (some ⟨g, 0, none⟩) := by simpa using hp
  have hq' : tmps[q]?.getD undef = .pointer (some ⟨g', 0, none⟩) := by simpa using hq
  simp [results, h, hp', hq', asAddr, run_loadVar_row w g t ty cs (0, 0) d hg hu hd hi, run_loadVar_row w g' t' ty' cs' (0, 0) d' hg' hu' hd' hi']

theorem capD {w : World} {base n c : Nat} {e : TypeId} {A : Option Addr} {xs : List Value} (h : w.ownsRow base e 1 (.slice A n c) n xs) : n ≤ c := by
  obtain ⟨A', c', h1, h2, _⟩ := own_form h
  injection h1 with _ _ h3
  omega
theorem RDCheck (s : List UInt8) (N : Nat) (w : World) (hs : s.length = 32) :
    Calls Tryd.prog 19 #[.agg (drC s N)] w fun e w' => e = .returned (.int .i64 (chkV N)) ∧ Below w.heap.size w w' := by
  have hM0 := (Ms.nil w).box 27 (drC s N)
  have hn := (hM0.get 0 rfl).nth hs
  have hB := hM0.old
  clear hM0
  go_enter Tryd.func19, Tryd.ntmps19
  by_cases h : 4294967296 < N
  · have h' : (4294967296 : Int) < (N : Int) := by omega
    go_wp2_with fail
    go_ret
    exact ⟨by rw [chkV, if_pos h]; rfl, hB⟩
  · have h' : ¬ (4294967296 : Int) < (N : Int) := by omega
    go_wp2_with fail
    go_ret
    exact ⟨by rw [chkV, if_neg h]; rfl, hB⟩

/-- what a new source answers -/
def NewPostD (w : World) (ts : List (List UInt8)) (e : Ending) (w' : World) : Prop :=
  Below w.heap.size w w' ∧ ((GoodT ts ∧ e = .returned (.tuple #[.agg (drC (newK ts) 0), .int .i64 0])) ∨ (¬ GoodT ts ∧ e = .returned (.tuple #[.agg (drC zeroD 0), .int .i64 4])))
theorem newK_len (ts : List (List UInt8)) : (newK ts).length = 32 := sumU_len _
theorem RDNew (At : Option Addr) (mt ct : Nat) (vs : List Value) (ts : List (List UInt8)) (w : World) (hmt : mt ≤ 1048576) (htx : GoodT ts → (txs ts).length ≤ 536870912) (hv : Rd w w.heap.size At mt vs) (ht : Txs w w.heap.size vs ts) (hK : KTab w) :
    Calls Tryd.prog 10 #[.slice At mt ct] w (NewPostD w ts) := by
  have hM0 := (Ms.nil w).box 27 #[.int .u8 0, .int .u8 0, .int .u8 0, .int .u8 0, .int .u8 0, .int .u8 0, .int .u8 0, .int .u8 0, .int .u8 0, .int .u8 0, .int .u8 0, .int .u8 0, .int .u8 0, .int .u8 0, .int .u8 0, .int .u8 0, .int .u8 0, .int .u8 0, .int .u8 0, .int .u8 0, .int .u8 0, .int .u8 0, .int .u8 0, .int .u8 0, .int .u8 0, .int .u8 0, .int .u8 0, .int .u8 0, .int .u8 0, .int .u8 0, .int .u8 0, .int .u8 0, .int .u64 0]
  have Hsz := Lib.hid (sizeDr (s := zeroD) 0 rfl)
  have Hoz := Lib.hid (one_dr zeroD 0)
  have Hsn := Lib.hid (sizeDr 0 (newK_len ts))
  have Hon := Lib.hid (one_dr (newK ts) 0)
  have Hzn := Lib.hid (show (#[.int .u8 0, .int .u8 0, .int .u8 0, .int .u8 0, .int .u8 0, .int .u8 0, .int .u8 0, .int .u8 0, .int .u8 0, .int .u8 0, .int .u8 0, .int .u8 0, .int .u8 0, .int .u8 0, .int .u8 0, .int .u8 0, .int .u8 0, .int .u8 0, .int .u8 0, .int .u8 0, .int .u8 0, .int .u8 0, .int .u8 0, .int .u8 0, .int .u8 0, .int .u8 0, .int .u8 0, .int .u8 0, .int .u8 0, .int .u8 0, .int .u8 0, .int .u8 0, .int .u64 0] : Array Value).size = (drC (newK ts) 0).size by rw [drC_size 0 (newK_len ts)]; rfl)
  rw [drZ] at Hsz Hoz
  have hv1 := d_rd hv hM0.old
  have ht1 := d_txs ht hM0.old
  have hK1 := hK.below hM0.old
  clear hv ht hK
  go_enter Tryd.func10, Tryd.ntmps10
  go_upto_region 1 with (fail)
  generalize w.alloc (.cells #[.int .u8 0, .int .u8 0, .int .u8 0, .int .u8 0, .int .u8 0, .int .u8 0, .int .u8 0, .int .u8 0, .int .u8 0, .int .u8 0, .int .u8 0, .int .u8 0, .int .u8 0, .int .u8 0, .int .u8 0, .int .u8 0, .int .u8 0, .int .u8 0, .int .u8 0, .int .u8 0, .int .u8 0, .int .u8 0, .int .u8 0, .int .u8 0, .int .u8 0, .int .u8 0, .int .u8 0, .int .u8 0, .int .u8 0, .int .u8 0, .int .u8 0, .int .u8 0, .int .u64 0] 27) = w4 at *
  go_wp2_with fail
  refine (refText_any none 0 0 [] At mt ct vs ts w4 (by omega) hmt (Rd.zero _ _ _) hv1 ht1).mono ?_
  intro e w5 hP
  by_cases hg : GoodT ts
  rotate_left
  · obtain ⟨rfl, hb5⟩ := hP.no hg
    have hM5 := hM0.call hb5
    go_wp2_with ((with_reducible show wpList _ _ _ (⟨none, Op.store 27 _ _, _, _, _, _⟩ :: _) _ _); refine wpList_store_row rfl 27 (.tmp 2) (.tmp 13) rfl (w.heap.size) #[.int .u8 0, .int .u8 0, .int .u8 0, .int .u8 0, .int .u8 0, .int .u8 0, .int .u8 0, .int .u8 0, .int .u8 0, .int .u8 0, .int .u8 0, .int .u8 0, .int .u8 0, .int .u8 0, .int .u8 0, .int .u8 0, .int .u8 0, .int .u8 0, .int .u8 0, .int .u8 0, .int .u8 0, .int .u8 0, .int .u8 0, .int .u8 0, .int .u8 0, .int .u8 0, .int .u8 0, .int .u8 0, .int .u8 0, .int .u8 0, .int .u8 0, .int .u8 0, .int .u64 0] rfl rfl 27 _ (hM5.get 0 rfl) Hsz.out rfl Hoz.out ?_)
    exact bodyPost_ret (results_cell_two rfl _ _ w.heap.size 27 #[.int .u8 0, .int .u8 0, .int .u8 0, .int .u8 0, .int .u8 0, .int .u8 0, .int .u8 0, .int .u8 0, .int .u8 0, .int .u8 0, .int .u8 0, .int .u8 0, .int .u8 0, .int .u8 0, .int .u8 0, .int .u8 0, .int .u8 0, .int .u8 0, .int .u8 0, .int .u8 0, .int .u8 0, .int .u8 0, .int .u8 0, .int .u8 0, .int .u8 0, .int .u8 0, .int .u8 0, .int .u8 0, .int .u8 0, .int .u8 0, .int .u8 0, .int .u8 0, .int .u64 0] _ rfl ((hM5.get 0 rfl).row _) Tryd.underlying27 rfl Hsz.out) rfl ⟨below_setRow hM5.old (Nat.le_refl _) _, .inr ⟨hg, by rw [drZ]; rfl⟩⟩
  obtain ⟨A5, n, c5, rfl, hown5, hnc, hln0, hb5⟩ := hP.yes hg
  rw [List.nil_append] at hown5 hln0
  have hln : n ≤ 536870912 := by rw [hln0.out]; exact htx hg
  have hM5 := hM0.call hb5
  have hr5 := Rd.of_own hown5
  have Hnk := Lib.hid (show newK ts = sumU ([txs ts].flatten) by simp [newK])
  have Hbd := Lib.hid (fun wx => build_dr0 (newK ts) wx (newK_len ts))
  clear hP hown5 hv1 ht1
  have hal := d_al w5 (.cells #[.slice A5 n c5] 45)
  have hM6 := hM5.call hal
  have hsum := Sum_any (some ⟨w5.heap.size, 0, none⟩) 1 1 [.slice A5 n c5] [txs ts] (w5.alloc (.cells #[.slice A5 n c5] 45)) (by omega) (by have := hln0.out; simp; omega) (Rd.mk_ _ _ _ rfl (by simp) rfl rfl) (txs_one1 (by rw [hln0.out]) hnc (d_rd hr5 hal)) (hK1.below (c_call hb5 hal))
  rw [← Hnk.out] at hsum
  rw [show ((newK ts).map bv).toArray = keyC (newK ts) from rfl] at hsum
  go_wp2_with fail
  refine hsum.mono ?_
  rintro e w7 ⟨rfl, hb7⟩
  have hM7 := hM6.call hb7
  clear hsum hM6 hM5 hal
  go_wp2_with (first
    | ((with_reducible show wpList _ _ _ (⟨some 18, _, _, _, _, _⟩ :: _) _ _); refine wpList_buildP rfl 27 #[(0, .tmp 17)] rfl #[(0, .agg (keyC (newK ts)))] (by kernel_rfl) (drC (newK ts) 0) (Hbd.out _) ?_)
    | ((with_reducible show wpList _ _ _ (⟨none, Op.store 27 _ _, _, _, _, _⟩ :: _) _ _); refine wpList_store_row rfl 27 (.tmp 2) (.tmp 18) rfl (w.heap.size) (drC (newK ts) 0) rfl rfl 27 _ (hM7.get 0 rfl) Hsn.out Hzn.out Hon.out ?_))
  exact bodyPost_ret (results_cell_two rfl _ _ w.heap.size 27 (drC (newK ts) 0) _ rfl ((hM7.get 0 rfl).row _) Tryd.underlying27 rfl Hsn.out) rfl ⟨below_setRow hM7.old (Nat.le_refl _) _, .inl ⟨hg, rfl⟩⟩

theorem RDerive_D (k : List UInt8) (s : ByteArray) (At : Option Addr) (m ct : Nat) (vs : List Value) (ts : List (List UInt8)) (w : World) (hk : k.length = 32) (hs : s.size ≤ 70000) (hm : m ≤ 1000000) (hmc : m ≤ ct)
    (hv : Rd w w.heap.size At m vs) (ht : Txs w w.heap.size vs ts) (hT : KTab w) (hf : fitD (strB s) ts) :
    Calls Tryd.prog 25 #[.agg (keyC k), .string s, .slice At m ct] w fun e w' => e = .returned (.tuple #[.agg (keyC (deriveU k (strB s) ts)), .int .i64 0]) ∧ Below w.heap.size w w' := by
  refine (rDerive_any k s At m ct vs ts w hk hs hm hmc hv ht hT).mono ?_
  rintro e w' ⟨hb, ⟨_, h⟩ | ⟨h, _⟩⟩
  · exact ⟨h, hb⟩
  · exact absurd hf h

set_option maxRecDepth 100000 in
set_option maxHeartbeats 4000000 in
theorem RDNext (s : List UInt8) (N : Nat) (w : World) (hs : s.length = 32) (hK : KTab w) :
    Calls Tryd.prog 12 #[.agg (drC s N)] w fun e w' => e = .returned (nextV s N) ∧ Below w.heap.size w w' := by
  have hM0 := (((Ms.nil w).box 27 (drC s N)).box 24 #[.int .u8 0, .int .u8 0, .int .u8 0, .int .u8 0, .int .u8 0, .int .u8 0, .int .u8 0, .int .u8 0, .int .u8 0, .int .u8 0, .int .u8 0, .int .u8 0, .int .u8 0, .int .u8 0, .int .u8 0, .int .u8 0, .int .u8 0, .int .u8 0, .int .u8 0, .int .u8 0, .int .u8 0, .int .u8 0, .int .u8 0, .int .u8 0, .int .u8 0, .int .u8 0, .int .u8 0, .int .u8 0, .int .u8 0, .int .u8 0, .int .u8 0, .int .u8 0]).box 27 #[.int .u8 0, .int .u8 0, .int .u8 0, .int .u8 0, .int .u8 0, .int .u8 0, .int .u8 0, .int .u8 0, .int .u8 0, .int .u8 0, .int .u8 0, .int .u8 0, .int .u8 0, .int .u8 0, .int .u8 0, .int .u8 0, .int .u8 0, .int .u8 0, .int .u8 0, .int .u8 0, .int .u8 0, .int .u8 0, .int .u8 0, .int .u8 0, .int .u8 0, .int .u8 0, .int .u8 0, .int .u8 0, .int .u8 0, .int .u8 0, .int .u8 0, .int .u8 0, .int .u64 0]
  simp only [World.size_alloc] at hM0
  have Hs := Lib.hid hs
  have Hsd := Lib.hid (sizeDr N hs)
  have Hsk0 := Lib.hid (sizeKey zeroD_len)
  have Hok0 := Lib.hid (one_keyF zeroD)
  have Hsd0 := Lib.hid (sizeDr (s := zeroD) 0 rfl)
  have Hod0 := Lib.hid (one_dr zeroD 0)
  rw [keyZD] at Hsk0 Hok0
  rw [drZ] at Hsd0 Hod0
  have hck := fun wx => RDCheck s N wx hs
  have Hv1 := Lib.hid (show ∀ er : Int, errN N = er → er ≠ 0 → nextV s N = .tuple #[.agg #[.int .u8 0, .int .u8 0, .int .u8 0, .int .u8 0, .int .u8 0, .int .u8 0, .int .u8 0, .int .u8 0, .int .u8 0, .int .u8 0, .int .u8 0, .int .u8 0, .int .u8 0, .int .u8 0, .int .u8 0, .int .u8 0, .int .u8 0, .int .u8 0, .int .u8 0, .int .u8 0, .int .u8 0, .int .u8 0, .int .u8 0, .int .u8 0, .int .u8 0, .int .u8 0, .int .u8 0, .int .u8 0, .int .u8 0, .int .u8 0, .int .u8 0, .int .u8 0], .agg #[.int .u8 0, .int .u8 0, .int .u8 0, .int .u8 0, .int .u8 0, .int .u8 0, .int .u8 0, .int .u8 0, .int .u8 0, .int .u8 0, .int .u8 0, .int .u8 0, .int .u8 0, .int .u8 0, .int .u8 0, .int .u8 0, .int .u8 0, .int .u8 0, .int .u8 0, .int .u8 0, .int .u8 0, .int .u8 0, .int .u8 0, .int .u8 0, .int .u8 0, .int .u8 0, .int .u8 0, .int .u8 0, .int .u8 0, .int .u8 0, .int .u8 0, .int .u8 0, .int .u64 0], .int .i64 er] from fun er h h0 => by
    rw [nextV, if_neg (by rw [h]; exact h0), h, drZ]
    rfl)
  clear hs
  go_enter Tryd.func12, Tryd.ntmps12
  by_cases h1 : 4294967296 < N
  · have hc1 : chkV N = 1 := by rw [chkV, if_pos h1]
    rw [hc1] at hck
    go_wp2_with ((with_reducible show wpList _ _ _ (⟨some 7, _, _, _, _, _⟩ :: _) _ _); refine wpList_loadC (by kernel_rfl) 27 (.tmp 1) rfl (w.heap.size) rfl 27 (drC s N) _ (hM0.get 2 rfl) Tryd.underlying27 rfl Hsd.out ?_)
    refine (hck _).mono ?_
    rintro e w1 ⟨rfl, hb1⟩
    have hM1 := hM0.call hb1
    clear hM0 hb1
    have He := Hv1.out 1 (by rw [errN, if_pos h1]) (by decide)
    go_wp2_with (first
      | ((with_reducible show wpList _ _ _ (⟨none, Op.store 24 _ _, _, _, _, _⟩ :: _) _ _); refine wpList_store_row rfl 24 (.tmp 2) (.tmp 10) rfl (w.heap.size + 1) #[.int .u8 0, .int .u8 0, .int .u8 0, .int .u8 0, .int .u8 0, .int .u8 0, .int .u8 0, .int .u8 0, .int .u8 0, .int .u8 0, .int .u8 0, .int .u8 0, .int .u8 0, .int .u8 0, .int .u8 0, .int .u8 0, .int .u8 0, .int .u8 0, .int .u8 0, .int .u8 0, .int .u8 0, .int .u8 0, .int .u8 0, .int .u8 0, .int .u8 0, .int .u8 0, .int .u8 0, .int .u8 0, .int .u8 0, .int .u8 0, .int .u8 0, .int .u8 0] rfl rfl 24 _ (hM1.get 1 rfl) Hsk0.out rfl Hok0.out ?_)
      | ((with_reducible show wpList _ _ _ (⟨none, Op.store 27 _ _, _, _, _, _⟩ :: _) _ _); refine wpList_store_row rfl 27 (.tmp 3) (.tmp 11) rfl (w.heap.size + 1 + 1) #[.int .u8 0, .int .u8 0, .int .u8 0, .int .u8 0, .int .u8 0, .int .u8 0, .int .u8 0, .int .u8 0, .int .u8 0, .int .u8 0, .int .u8 0, .int .u8 0, .int .u8 0, .int .u8 0, .int .u8 0, .int .u8 0, .int .u8 0, .int .u8 0, .int .u8 0, .int .u8 0, .int .u8 0, .int .u8 0, .int .u8 0, .int .u8 0, .int .u8 0, .int .u8 0, .int .u8 0, .int .u8 0, .int .u8 0, .int .u8 0, .int .u8 0, .int .u8 0, .int .u64 0] rfl rfl 27 _ ((hM1.get 0 rfl).rowFar (by omega) _) Hsd0.out rfl Hod0.out ?_))
    exact bodyPost_ret (results_ccT rfl _ _ (w.heap.size + 1) (w.heap.size + 1 + 1) 24 27 #[.int .u8 0, .int .u8 0, .int .u8 0, .int .u8 0, .int .u8 0, .int .u8 0, .int .u8 0, .int .u8 0, .int .u8 0, .int .u8 0, .int .u8 0, .int .u8 0, .int .u8 0, .int .u8 0, .int .u8 0, .int .u8 0, .int .u8 0, .int .u8 0, .int .u8 0, .int .u8 0, .int .u8 0, .int .u8 0, .int .u8 0, .int .u8 0, .int .u8 0, .int .u8 0, .int .u8 0, .int .u8 0, .int .u8 0, .int .u8 0, .int .u8 0, .int .u8 0] #[.int .u8 0, .int .u8 0, .int .u8 0, .int .u8 0, .int .u8 0, .int .u8 0, .int .u8 0, .int .u8 0, .int .u8 0, .int .u8 0, .int .u8 0, .int .u8 0, .int .u8 0, .int .u8 0, .int .u8 0, .int .u8 0, .int .u8 0, .int .u8 0, .int .u8 0, .int .u8 0, .int .u8 0, .int .u8 0, .int .u8 0, .int .u8 0, .int .u8 0, .int .u8 0, .int .u8 0, .int .u8 0, .int .u8 0, .int .u8 0, .int .u8 0, .int .u8 0, .int .u64 0] _ _ rfl (((hM1.get 1 rfl).row _).rowFar (by omega) _) rfl (((hM1.get 0 rfl).rowFar (by omega) _).row _) Tryd.underlying24 rfl Tryd.underlying27 rfl Hsk0.out Hsd0.out) rfl ⟨by rw [He]; rfl, below_setRow (below_setRow hM1.old (by omega) _) (by omega) _⟩
  have hc1 : chkV N = 0 := by rw [chkV, if_neg h1]
  rw [hc1] at hck
  go_wp2_with ((with_reducible show wpList _ _ _ (⟨some 7, _, _, _, _, _⟩ :: _) _ _); refine wpList_loadC (by kernel_rfl) 27 (.tmp 1) rfl (w.heap.size) rfl 27 (drC s N) _ (hM0.get 2 rfl) Tryd.underlying27 rfl Hsd.out ?_)
  refine (hck _).mono ?_
  rintro e w1 ⟨rfl, hb1⟩
  have hM1 := hM0.call hb1
  clear hM0 hb1
  have hn1 := (hM1.get 2 rfl).nth Hs.out
  by_cases h2 : N = 4294967296
  · have He := Hv1.out 8 (by rw [errN, if_neg h1, if_pos h2]) (by decide)
    have h2' : (N : Int) = 4294967296 := by omega
    go_wp2_with (first
      | ((with_reducible show wpList _ _ _ (⟨none, Op.store 24 _ _, _, _, _, _⟩ :: _) _ _); refine wpList_store_row rfl 24 (.tmp 2) (.tmp 15) rfl (w.heap.size + 1) #[.int .u8 0, .int .u8 0, .int .u8 0, .int .u8 0, .int .u8 0, .int .u8 0, .int .u8 0, .int .u8 0, .int .u8 0, .int .u8 0, .int .u8 0, .int .u8 0, .int .u8 0, .int .u8 0, .int .u8 0, .int .u8 0, .int .u8 0, .int .u8 0, .int .u8 0, .int .u8 0, .int .u8 0, .int .u8 0, .int .u8 0, .int .u8 0, .int .u8 0, .int .u8 0, .int .u8 0, .int .u8 0, .int .u8 0, .int .u8 0, .int .u8 0, .int .u8 0] rfl rfl 24 _ (hM1.get 1 rfl) Hsk0.out rfl Hok0.out ?_)
      | ((with_reducible show wpList _ _ _ (⟨none, Op.store 27 _ _, _, _, _, _⟩ :: _) _ _); refine wpList_store_row rfl 27 (.tmp 3) (.tmp 16) rfl (w.heap.size + 1 + 1) #[.int .u8 0, .int .u8 0, .int .u8 0, .int .u8 0, .int .u8 0, .int .u8 0, .int .u8 0, .int .u8 0, .int .u8 0, .int .u8 0, .int .u8 0, .int .u8 0, .int .u8 0, .int .u8 0, .int .u8 0, .int .u8 0, .int .u8 0, .int .u8 0, .int .u8 0, .int .u8 0, .int .u8 0, .int .u8 0, .int .u8 0, .int .u8 0, .int .u8 0, .int .u8 0, .int .u8 0, .int .u8 0, .int .u8 0, .int .u8 0, .int .u8 0, .int .u8 0, .int .u64 0] rfl rfl 27 _ ((hM1.get 0 rfl).rowFar (by omega) _) Hsd0.out rfl Hod0.out ?_))
    exact bodyPost_ret (results_ccT rfl _ _ (w.heap.size + 1) (w.heap.size + 1 + 1) 24 27 #[.int .u8 0, .int .u8 0, .int .u8 0, .int .u8 0, .int .u8 0, .int .u8 0, .int .u8 0, .int .u8 0, .int .u8 0, .int .u8 0, .int .u8 0, .int .u8 0, .int .u8 0, .int .u8 0, .int .u8 0, .int .u8 0, .int .u8 0, .int .u8 0, .int .u8 0, .int .u8 0, .int .u8 0, .int .u8 0, .int .u8 0, .int .u8 0, .int .u8 0, .int .u8 0, .int .u8 0, .int .u8 0, .int .u8 0, .int .u8 0, .int .u8 0, .int .u8 0] #[.int .u8 0, .int .u8 0, .int .u8 0, .int .u8 0, .int .u8 0, .int .u8 0, .int .u8 0, .int .u8 0, .int .u8 0, .int .u8 0, .int .u8 0, .int .u8 0, .int .u8 0, .int .u8 0, .int .u8 0, .int .u8 0, .int .u8 0, .int .u8 0, .int .u8 0, .int .u8 0, .int .u8 0, .int .u8 0, .int .u8 0, .int .u8 0, .int .u8 0, .int .u8 0, .int .u8 0, .int .u8 0, .int .u8 0, .int .u8 0, .int .u8 0, .int .u8 0, .int .u64 0] _ _ rfl (((hM1.get 1 rfl).row _).rowFar (by omega) _) rfl (((hM1.get 0 rfl).rowFar (by omega) _).row _) Tryd.underlying24 rfl Tryd.underlying27 rfl Hsk0.out Hsd0.out) rfl ⟨by rw [He]; rfl, below_setRow (below_setRow hM1.old (by omega) _) (by omega) _⟩
  have h2' : ¬ (N : Int) = 4294967296 := by omega
  have hK1 := hK.below hM1.old
  have Hfin := Lib.hid (show nextV s N = .tuple #[.agg (keyC (drawU s N)), .agg (drC s (N + 1)), .int .i64 0] by rw [nextV, if_pos (by rw [errN, if_neg h1, if_neg h2])]; rfl)
  have hby := fun wx => Bytes_any 8 N wx (by omega) (by omega)
  rw [show ((8 : Nat) : Int) = 8 from rfl] at hby
  have Hdk := Lib.hid (drawU_len s N)
  have Hdu := Lib.hid (show drawU s N = deriveU s (strB ⟨#[100, 114, 97, 119]⟩) [be 8 N] from rfl)
  have hdr := fun wx A c gs (hk : KTab wx) (h8 : 8 ≤ c) (hr8 : Rd wx wx.heap.size A 8 ((be 8 N).map bv)) (hrs : Rd wx wx.heap.size (some ⟨gs, 0, none⟩) 1 [.slice A 8 c]) =>
    RDerive_D s ⟨#[100, 114, 97, 119]⟩ (some ⟨gs, 0, none⟩) 1 1 _ [be 8 N] wx Hs.out (by decide) (by omega) (Nat.le_refl _) hrs (txs_one1 (be_length _ _) h8 hr8) hk (fit_draw N)
  rw [← Hdu.out] at hdr
  have Hsk := Lib.hid (sizeKey (drawU_len s N))
  have Hok := Lib.hid (one_keyF (drawU s N))
  have Hzk := Lib.hid (show (#[.int .u8 0, .int .u8 0, .int .u8 0, .int .u8 0, .int .u8 0, .int .u8 0, .int .u8 0, .int .u8 0, .int .u8 0, .int .u8 0, .int .u8 0, .int .u8 0, .int .u8 0, .int .u8 0, .int .u8 0, .int .u8 0, .int .u8 0, .int .u8 0, .int .u8 0, .int .u8 0, .int .u8 0, .int .u8 0, .int .u8 0, .int .u8 0, .int .u8 0, .int .u8 0, .int .u8 0, .int .u8 0, .int .u8 0, .int .u8 0, .int .u8 0, .int .u8 0] : Array Value).size = (keyC (drawU s N)).size by rw [keyC_size, drawU_len]; rfl)
  obtain ⟨N', hN'⟩ : ∃ N', N' = N + 1 := ⟨_, rfl⟩
  have e1 : (N : Int) + 1 = (N' : Int) := by omega
  have e2 : IntKind.u64.wrap (N' : Int) = (N' : Int) := by rw [IntKind.wrap_u64]; omega
  have Hsn := Lib.hid (sizeDr N' Hs.out)
  have Hon := Lib.hid (one_dr s N')
  have Hzn := Lib.hid (show (#[.int .u8 0, .int .u8 0, .int .u8 0, .int .u8 0, .int .u8 0, .int .u8 0, .int .u8 0, .int .u8 0, .int .u8 0, .int .u8 0, .int .u8 0, .int .u8 0, .int .u8 0, .int .u8 0, .int .u8 0, .int .u8 0, .int .u8 0, .int .u8 0, .int .u8 0, .int .u8 0, .int .u8 0, .int .u8 0, .int .u8 0, .int .u8 0, .int .u8 0, .int .u8 0, .int .u8 0, .int .u8 0, .int .u8 0, .int .u8 0, .int .u8 0, .int .u8 0, .int .u64 0] : Array Value).size = (drC s N').size by rw [drC_size N' Hs.out]; rfl)
  have Hbd := Lib.hid (fun wx => build_dr s N' wx Hs.out)
  rw [← hN'] at Hfin
  clear h1 h2 hN' hc1 hck Hdu
  generalize drawU s N = kk at *
  go_upto_region 5 with (fail)
  try simp only [Act.put]
  refine wp_gen (fun wx => Ms w wx [(w.heap.size + 1 + 1, 27, #[.int .u8 0, .int .u8 0, .int .u8 0, .int .u8 0, .int .u8 0, .int .u8 0, .int .u8 0, .int .u8 0, .int .u8 0, .int .u8 0, .int .u8 0, .int .u8 0, .int .u8 0, .int .u8 0, .int .u8 0, .int .u8 0, .int .u8 0, .int .u8 0, .int .u8 0, .int .u8 0, .int .u8 0, .int .u8 0, .int .u8 0, .int .u8 0, .int .u8 0, .int .u8 0, .int .u8 0, .int .u8 0, .int .u8 0, .int .u8 0, .int .u8 0, .int .u8 0, .int .u64 0]), (w.heap.size + 1, 24, #[.int .u8 0, .int .u8 0, .int .u8 0, .int .u8 0, .int .u8 0, .int .u8 0, .int .u8 0, .int .u8 0, .int .u8 0, .int .u8 0, .int .u8 0, .int .u8 0, .int .u8 0, .int .u8 0, .int .u8 0, .int .u8 0, .int .u8 0, .int .u8 0, .int .u8 0, .int .u8 0, .int .u8 0, .int .u8 0, .int .u8 0, .int .u8 0, .int .u8 0, .int .u8 0, .int .u8 0, .int .u8 0, .int .u8 0, .int .u8 0, .int .u8 0, .int .u8 0]), (w.heap.size, 27, (drC s N))]) hM1 ?_
  clear hM1 hn1 hK1
  rintro v1 hM
  have hT1 := hK.below hM.old
  go_cut [5, 6] (fun p q wx => ∃ g : Nat, p = .pointer (some ⟨g, 0, none⟩) ∧ q = .int .i64 0 ∧ w.heap.size + 1 + 1 < g ∧ Ms w wx ((g, 24, keyC kk) :: [(w.heap.size + 1 + 1, 27, #[.int .u8 0, .int .u8 0, .int .u8 0, .int .u8 0, .int .u8 0, .int .u8 0, .int .u8 0, .int .u8 0, .int .u8 0, .int .u8 0, .int .u8 0, .int .u8 0, .int .u8 0, .int .u8 0, .int .u8 0, .int .u8 0, .int .u8 0, .int .u8 0, .int .u8 0, .int .u8 0, .int .u8 0, .int .u8 0, .int .u8 0, .int .u8 0, .int .u8 0, .int .u8 0, .int .u8 0, .int .u8 0, .int .u8 0, .int .u8 0, .int .u8 0, .int .u8 0, .int .u64 0]), (w.heap.size + 1, 24, #[.int .u8 0, .int .u8 0, .int .u8 0, .int .u8 0, .int .u8 0, .int .u8 0, .int .u8 0, .int .u8 0, .int .u8 0, .int .u8 0, .int .u8 0, .int .u8 0, .int .u8 0, .int .u8 0, .int .u8 0, .int .u8 0, .int .u8 0, .int .u8 0, .int .u8 0, .int .u8 0, .int .u8 0, .int .u8 0, .int .u8 0, .int .u8 0, .int .u8 0, .int .u8 0, .int .u8 0, .int .u8 0, .int .u8 0, .int .u8 0, .int .u8 0, .int .u8 0]), (w.heap.size, 27, (drC s N))]))
  case first =>
    have hun := Tryd.underlying24
    have hss : (Tryd.prog.info? 24).map (·.size) = some (keyC s).toList.length := by simpa using sizeKey Hs.out
    have hkeep : ∀ wx : World, Below v1.heap.size v1 wx → wx.rangeAt w.heap.size 0 (keyC s).toList ∧ wx.cell? ⟨w.heap.size, 32, none⟩ = some (.int .u64 (N : Int)) := fun wx hb => ⟨((hM.get 2 rfl).call hb).seed, ((hM.get 2 rfl).call hb).nth Hs.out⟩
    have hD := hM.drew
    refine beginT (fun wx => wx.rangeAt w.heap.size 0 (keyC s).toList ∧ wx.cell? ⟨w.heap.size, 32, none⟩ = some (.int .u64 (N : Int))) 13 (by kernel_rfl) ?_
    have hS := hkeep _ (c_drew (c_refl _))
    refine takeD 0 (some 18) (.pointer (some ⟨w.heap.size, 0, none⟩)) rfl rfl (by kernel_rfl) (by kernel_rfl) (by kernel_rfl) (by kernel_rfl) (fun _ _ _ h => h) (Or.inl ⟨by kernel_rfl, fun wx hSw => by go_simp⟩) hS ?_
    simp only [Act.put, List.setIfInBounds_toArray, List.set_cons_zero, List.set_cons_succ]
    refine loadT 1 (some 19) 24 (.tmp 18) w.heap.size 0 (keyC s).toList rfl rfl (by kernel_rfl) (by kernel_rfl) (by kernel_rfl) (by kernel_rfl) rfl (by kernel_rfl) rfl (fun wx hSw => hSw.1) hun rfl hss (fun _ _ _ h => h) hS ?_
    simp only [Act.put, List.setIfInBounds_toArray, List.set_cons_zero, List.set_cons_succ, Array.toArray_toList]
    refine takeD 2 (some 20) (.pointer (some ⟨w.heap.size, 32, none⟩)) rfl rfl (by kernel_rfl) (by kernel_rfl) (by kernel_rfl) (by kernel_rfl) (fun _ _ _ h => h) (Or.inl ⟨by kernel_rfl, fun wx hSw => by go_simp⟩) hS ?_
    simp only [Act.put, List.setIfInBounds_toArray, List.set_cons_zero, List.set_cons_succ]
    refine takeD 3 (some 21) (.int .u64 (N : Int)) rfl rfl (by kernel_rfl) (by kernel_rfl) (by kernel_rfl) (by kernel_rfl) (fun _ _ _ h => h) (Or.inl ⟨by kernel_rfl, fun wx hSw => by have h := hSw.2; go_simp⟩) hS ?_
    simp only [Act.put, List.setIfInBounds_toArray, List.set_cons_zero, List.set_cons_succ]
    have hx0 : Below v1.heap.size v1 v1.drew := c_drew (c_refl _)
    generalize v1.drew = x0 at *
    refine readyT [4, 10] (by kernel_rfl) (by simp) (AllReadyT.cons rfl (fun K hK => ?_) (AllReadyT.cons rfl (fun K hK => ?_) AllReadyT.nil))
    · go_simp
      refine (hby _).mono ?_
      rintro e x1 ⟨A1, c1, rfl, ho1, hx1⟩
      refine hK.out _ _ (fun _ => hkeep _ (by (repeat (first | exact c_refl _ | refine c_drew ?_ | refine c_alloc ?_ _ | refine c_row ?_ (by first | omega | exact Nat.le_refl _) _ | refine c_call ?_ (by assumption))); first | done | fail "open")) ?_
      clear hK K
      have hN1 := hD.call hx1
      have hr8 := Rd.of_own ho1
      have h8c := capD ho1
      clear ho1
      refine readyT [5, 10] (by kernel_rfl) (by simp) (AllReadyT.cons rfl (fun K hK => ?_) (AllReadyT.cons rfl (fun K hK => ?_) AllReadyT.nil))
      · go_simp
        refine hK.out _ _ (fun _ => hkeep _ (by (repeat (first | exact c_refl _ | refine c_drew ?_ | refine c_alloc ?_ _ | refine c_row ?_ (by first | omega | exact Nat.le_refl _) _ | refine c_call ?_ (by assumption))); first | done | fail "open")) ?_
        clear hK K
        have hx2 := d_al x1 (.cells #[.slice A1 8 c1] 45)
        have hN2 := hN1.call hx2
        have hrs : Rd (x1.alloc (.cells #[.slice A1 8 c1] 45)) (x1.alloc (.cells #[.slice A1 8 c1] 45)).heap.size (some ⟨x1.heap.size, 0, none⟩) 1 [.slice A1 8 c1] := Rd.mk_ _ _ _ rfl (by simp) rfl rfl
        have hr8 := d_rd hr8 hx2
        generalize (x1.alloc (.cells #[.slice A1 8 c1] 45)) = x2 at *
        refine readyT [6, 10] (by kernel_rfl) (by simp) (AllReadyT.cons rfl (fun K hK => ?_) (AllReadyT.cons rfl (fun K hK => ?_) AllReadyT.nil))
        · go_simp
          refine (hdr _ _ _ _ (hT1.below (by (repeat (first | exact c_refl _ | refine c_drew ?_ | refine c_alloc ?_ _ | refine c_row ?_ (by first | omega | exact Nat.le_refl _) _ | refine c_call ?_ (by assumption))); first | done | fail "open")) h8c hr8 hrs).mono ?_
          rintro e x3 ⟨rfl, hx3⟩
          refine hK.out _ _ (fun _ => hkeep _ (by (repeat (first | exact c_refl _ | refine c_drew ?_ | refine c_alloc ?_ _ | refine c_row ?_ (by first | omega | exact Nat.le_refl _) _ | refine c_call ?_ (by assumption))); first | done | fail "open")) ?_
          clear hK K
          have hN3 := hN2.call hx3
          clear hr8 hrs
          have hS9 := hkeep x3 (by (repeat (first | exact c_refl _ | refine c_drew ?_ | refine c_alloc ?_ _ | refine c_row ?_ (by first | omega | exact Nat.le_refl _) _ | refine c_call ?_ (by assumption))); first | done | fail "open")
          refine takeD 7 (some 17) (.tuple #[.agg (keyC kk), .int .i64 0]) rfl rfl (by kernel_rfl) (by kernel_rfl) (by kernel_rfl) (by kernel_rfl) (fun _ _ _ h => h) (Or.inl ⟨by kernel_rfl, fun wx hSw => by go_simp⟩) hS9 ?_
          simp only [Act.put, List.setIfInBounds_toArray, List.set_cons_zero, List.set_cons_succ]
          refine takeD 8 (some 25) (.agg (keyC kk)) rfl rfl (by kernel_rfl) (by kernel_rfl) (by kernel_rfl) (by kernel_rfl) (fun _ _ _ h => h) (Or.inl ⟨by kernel_rfl, fun wx hSw => by go_simp⟩) hS9 ?_
          simp only [Act.put, List.setIfInBounds_toArray, List.set_cons_zero, List.set_cons_succ]
          refine takeD 9 (some 26) (.int .i64 0) rfl rfl (by kernel_rfl) (by kernel_rfl) (by kernel_rfl) (by kernel_rfl) (fun _ _ _ h => h) (Or.inl ⟨by kernel_rfl, fun wx hSw => by go_simp⟩) hS9 ?_
          simp only [Act.put, List.setIfInBounds_toArray, List.set_cons_zero, List.set_cons_succ]
          refine oneT 10 (by kernel_rfl) rfl (fun K hK => ?_)
          go_simp
          refine hK.out _ _ (fun _ => hkeep _ (by (repeat (first | exact c_refl _ | refine c_drew ?_ | refine c_alloc ?_ _ | refine c_row ?_ (by first | omega | exact Nat.le_refl _) _ | refine c_call ?_ (by assumption))); first | done | fail "open")) ?_
          clear hK K
          have hnx := fun p hp => Nat.ne_of_lt ((hN3.rows p hp).lt)
          have hgx := hN3.old.size
          have hgz := (hN3.get 0 rfl).lt
          have hx4 := d_al x3 (.cells #[.int .u8 0, .int .u8 0, .int .u8 0, .int .u8 0, .int .u8 0, .int .u8 0, .int .u8 0, .int .u8 0, .int .u8 0, .int .u8 0, .int .u8 0, .int .u8 0, .int .u8 0, .int .u8 0, .int .u8 0, .int .u8 0, .int .u8 0, .int .u8 0, .int .u8 0, .int .u8 0, .int .u8 0, .int .u8 0, .int .u8 0, .int .u8 0, .int .u8 0, .int .u8 0, .int .u8 0, .int .u8 0, .int .u8 0, .int .u8 0, .int .u8 0, .int .u8 0] 24)
          have hN4 := hN3.box 24 #[.int .u8 0, .int .u8 0, .int .u8 0, .int .u8 0, .int .u8 0, .int .u8 0, .int .u8 0, .int .u8 0, .int .u8 0, .int .u8 0, .int .u8 0, .int .u8 0, .int .u8 0, .int .u8 0, .int .u8 0, .int .u8 0, .int .u8 0, .int .u8 0, .int .u8 0, .int .u8 0, .int .u8 0, .int .u8 0, .int .u8 0, .int .u8 0, .int .u8 0, .int .u8 0, .int .u8 0, .int .u8 0, .int .u8 0, .int .u8 0, .int .u8 0, .int .u8 0]
          generalize (x3.alloc (.cells #[.int .u8 0, .int .u8 0, .int .u8 0, .int .u8 0, .int .u8 0, .int .u8 0, .int .u8 0, .int .u8 0, .int .u8 0, .int .u8 0, .int .u8 0, .int .u8 0, .int .u8 0, .int .u8 0, .int .u8 0, .int .u8 0, .int .u8 0, .int .u8 0, .int .u8 0, .int .u8 0, .int .u8 0, .int .u8 0, .int .u8 0, .int .u8 0, .int .u8 0, .int .u8 0, .int .u8 0, .int .u8 0, .int .u8 0, .int .u8 0, .int .u8 0, .int .u8 0] 24)) = x4 at *
          have hset := Ms.set hN4 hgx hnx (keyC kk)
          refine oneT 11 (by kernel_rfl) rfl (fun K hK => ?_)
          refine step_store_row rfl 24 (.tmp 5) (.tmp 25) rfl (x3.heap.size) (keyC kk) rfl rfl 24 _ (hN4.get 0 rfl) Hsk.out Hzk.out Hok.out ?_
          refine hK.out _ _ (fun _ => ⟨(hset.get 3 rfl).seed, (hset.get 3 rfl).nth Hs.out⟩) ?_
          clear hK K
          refine oneT 12 (by kernel_rfl) rfl (fun K hK => ?_)
          go_simp
          refine hK.out _ _ (fun _ => ⟨(hset.get 3 rfl).seed, (hset.get 3 rfl).nth Hs.out⟩) ?_
          clear hK K
          refine doneT (by kernel_rfl) ?_ _
          go_wp2_with fail
          go_meet
          exact ⟨_, rfl, rfl, hgz, hset⟩
        · go_simp
          refine hK.out _ _ (fun _ => hkeep _ (by (repeat (first | exact c_refl _ | refine c_drew ?_ | refine c_alloc ?_ _ | refine c_row ?_ (by first | omega | exact Nat.le_refl _) _ | refine c_call ?_ (by assumption))); first | done | fail "open")) ?_
          clear hK K
          have hnx := fun p hp => Nat.ne_of_lt ((hN2.rows p hp).lt)
          have hgx := hN2.old.size
          have hgz := (hN2.get 0 rfl).lt
          have hx3 := d_al x2 (.cells #[.int .u8 0, .int .u8 0, .int .u8 0, .int .u8 0, .int .u8 0, .int .u8 0, .int .u8 0, .int .u8 0, .int .u8 0, .int .u8 0, .int .u8 0, .int .u8 0, .int .u8 0, .int .u8 0, .int .u8 0, .int .u8 0, .int .u8 0, .int .u8 0, .int .u8 0, .int .u8 0, .int .u8 0, .int .u8 0, .int .u8 0, .int .u8 0, .int .u8 0, .int .u8 0, .int .u8 0, .int .u8 0, .int .u8 0, .int .u8 0, .int .u8 0, .int .u8 0] 24)
          have hN3 := hN2.box 24 #[.int .u8 0, .int .u8 0, .int .u8 0, .int .u8 0, .int .u8 0, .int .u8 0, .int .u8 0, .int .u8 0, .int .u8 0, .int .u8 0, .int .u8 0, .int .u8 0, .int .u8 0, .int .u8 0, .int .u8 0, .int .u8 0, .int .u8 0, .int .u8 0, .int .u8 0, .int .u8 0, .int .u8 0, .int .u8 0, .int .u8 0, .int .u8 0, .int .u8 0, .int .u8 0, .int .u8 0, .int .u8 0, .int .u8 0, .int .u8 0, .int .u8 0, .int .u8 0]
          have hr8 := d_rd hr8 hx3
          have hrs := d_rd hrs hx3
          generalize (x2.alloc (.cells #[.int .u8 0, .int .u8 0, .int .u8 0, .int .u8 0, .int .u8 0, .int .u8 0, .int .u8 0, .int .u8 0, .int .u8 0, .int .u8 0, .int .u8 0, .int .u8 0, .int .u8 0, .int .u8 0, .int .u8 0, .int .u8 0, .int .u8 0, .int .u8 0, .int .u8 0, .int .u8 0, .int .u8 0, .int .u8 0, .int .u8 0, .int .u8 0, .int .u8 0, .int .u8 0, .int .u8 0, .int .u8 0, .int .u8 0, .int .u8 0, .int .u8 0, .int .u8 0] 24)) = x3 at *
          refine oneT 6 (by kernel_rfl) rfl (fun K hK => ?_)
          go_simp
          refine (hdr _ _ _ _ (hT1.below (by (repeat (first | exact c_refl _ | refine c_drew ?_ | refine c_alloc ?_ _ | refine c_row ?_ (by first | omega | exact Nat.le_refl _) _ | refine c_call ?_ (by assumption))); first | done | fail "open")) h8c hr8 hrs).mono ?_
          rintro e x4 ⟨rfl, hx4⟩
          refine hK.out _ _ (fun _ => hkeep _ (by (repeat (first | exact c_refl _ | refine c_drew ?_ | refine c_alloc ?_ _ | refine c_row ?_ (by first | omega | exact Nat.le_refl _) _ | refine c_call ?_ (by assumption))); first | done | fail "open")) ?_
          clear hK K
          have hN4 := hN3.call hx4
          clear hr8 hrs
          have hS9 := hkeep x4 (by (repeat (first | exact c_refl _ | refine c_drew ?_ | refine c_alloc ?_ _ | refine c_row ?_ (by first | omega | exact Nat.le_refl _) _ | refine c_call ?_ (by assumption))); first | done | fail "open")
          refine takeD 7 (some 17) (.tuple #[.agg (keyC kk), .int .i64 0]) rfl rfl (by kernel_rfl) (by kernel_rfl) (by kernel_rfl) (by kernel_rfl) (fun _ _ _ h => h) (Or.inl ⟨by kernel_rfl, fun wx hSw => by go_simp⟩) hS9 ?_
          simp only [Act.put, List.setIfInBounds_toArray, List.set_cons_zero, List.set_cons_succ]
          refine takeD 8 (some 25) (.agg (keyC kk)) rfl rfl (by kernel_rfl) (by kernel_rfl) (by kernel_rfl) (by kernel_rfl) (fun _ _ _ h => h) (Or.inl ⟨by kernel_rfl, fun wx hSw => by go_simp⟩) hS9 ?_
          simp only [Act.put, List.setIfInBounds_toArray, List.set_cons_zero, List.set_cons_succ]
          refine takeD 9 (some 26) (.int .i64 0) rfl rfl (by kernel_rfl) (by kernel_rfl) (by kernel_rfl) (by kernel_rfl) (fun _ _ _ h => h) (Or.inl ⟨by kernel_rfl, fun wx hSw => by go_simp⟩) hS9 ?_
          simp only [Act.put, List.setIfInBounds_toArray, List.set_cons_zero, List.set_cons_succ]
          have hset := Ms.set hN4 hgx hnx (keyC kk)
          refine oneT 11 (by kernel_rfl) rfl (fun K hK => ?_)
          refine step_store_row rfl 24 (.tmp 5) (.tmp 25) rfl (x2.heap.size) (keyC kk) rfl rfl 24 _ (hN4.get 0 rfl) Hsk.out Hzk.out Hok.out ?_
          refine hK.out _ _ (fun _ => ⟨(hset.get 3 rfl).seed, (hset.get 3 rfl).nth Hs.out⟩) ?_
          clear hK K
          refine oneT 12 (by kernel_rfl) rfl (fun K hK => ?_)
          go_simp
          refine hK.out _ _ (fun _ => ⟨(hset.get 3 rfl).seed, (hset.get 3 rfl).nth Hs.out⟩) ?_
          clear hK K
          refine doneT (by kernel_rfl) ?_ _
          go_wp2_with fail
          go_meet
          exact ⟨_, rfl, rfl, hgz, hset⟩
      · go_simp
        refine hK.out _ _ (fun _ => hkeep _ (by (repeat (first | exact c_refl _ | refine c_drew ?_ | refine c_alloc ?_ _ | refine c_row ?_ (by first | omega | exact Nat.le_refl _) _ | refine c_call ?_ (by assumption))); first | done | fail "open")) ?_
        clear hK K
        have hnx := fun p hp => Nat.ne_of_lt ((hN1.rows p hp).lt)
        have hgx := hN1.old.size
        have hgz := (hN1.get 0 rfl).lt
        have hx2 := d_al x1 (.cells #[.int .u8 0, .int .u8 0, .int .u8 0, .int .u8 0, .int .u8 0, .int .u8 0, .int .u8 0, .int .u8 0, .int .u8 0, .int .u8 0, .int .u8 0, .int .u8 0, .int .u8 0, .int .u8 0, .int .u8 0, .int .u8 0, .int .u8 0, .int .u8 0, .int .u8 0, .int .u8 0, .int .u8 0, .int .u8 0, .int .u8 0, .int .u8 0, .int .u8 0, .int .u8 0, .int .u8 0, .int .u8 0, .int .u8 0, .int .u8 0, .int .u8 0, .int .u8 0] 24)
        have hN2 := hN1.box 24 #[.int .u8 0, .int .u8 0, .int .u8 0, .int .u8 0, .int .u8 0, .int .u8 0, .int .u8 0, .int .u8 0, .int .u8 0, .int .u8 0, .int .u8 0, .int .u8 0, .int .u8 0, .int .u8 0, .int .u8 0, .int .u8 0, .int .u8 0, .int .u8 0, .int .u8 0, .int .u8 0, .int .u8 0, .int .u8 0, .int .u8 0, .int .u8 0, .int .u8 0, .int .u8 0, .int .u8 0, .int .u8 0, .int .u8 0, .int .u8 0, .int .u8 0, .int .u8 0]
        have hr8 := d_rd hr8 hx2
        generalize (x1.alloc (.cells #[.int .u8 0, .int .u8 0, .int .u8 0, .int .u8 0, .int .u8 0, .int .u8 0, .int .u8 0, .int .u8 0, .int .u8 0, .int .u8 0, .int .u8 0, .int .u8 0, .int .u8 0, .int .u8 0, .int .u8 0, .int .u8 0, .int .u8 0, .int .u8 0, .int .u8 0, .int .u8 0, .int .u8 0, .int .u8 0, .int .u8 0, .int .u8 0, .int .u8 0, .int .u8 0, .int .u8 0, .int .u8 0, .int .u8 0, .int .u8 0, .int .u8 0, .int .u8 0] 24)) = x2 at *
        refine oneT 5 (by kernel_rfl) rfl (fun K hK => ?_)
        go_simp
        refine hK.out _ _ (fun _ => hkeep _ (by (repeat (first | exact c_refl _ | refine c_drew ?_ | refine c_alloc ?_ _ | refine c_row ?_ (by first | omega | exact Nat.le_refl _) _ | refine c_call ?_ (by assumption))); first | done | fail "open")) ?_
        clear hK K
        have hx3 := d_al x2 (.cells #[.slice A1 8 c1] 45)
        have hN3 := hN2.call hx3
        have hrs : Rd (x2.alloc (.cells #[.slice A1 8 c1] 45)) (x2.alloc (.cells #[.slice A1 8 c1] 45)).heap.size (some ⟨x2.heap.size, 0, none⟩) 1 [.slice A1 8 c1] := Rd.mk_ _ _ _ rfl (by simp) rfl rfl
        have hr8 := d_rd hr8 hx3
        generalize (x2.alloc (.cells #[.slice A1 8 c1] 45)) = x3 at *
        refine oneT 6 (by kernel_rfl) rfl (fun K hK => ?_)
        go_simp
        refine (hdr _ _ _ _ (hT1.below (by (repeat (first | exact c_refl _ | refine c_drew ?_ | refine c_alloc ?_ _ | refine c_row ?_ (by first | omega | exact Nat.le_refl _) _ | refine c_call ?_ (by assumption))); first | done | fail "open")) h8c hr8 hrs).mono ?_
        rintro e x4 ⟨rfl, hx4⟩
        refine hK.out _ _ (fun _ => hkeep _ (by (repeat (first | exact c_refl _ | refine c_drew ?_ | refine c_alloc ?_ _ | refine c_row ?_ (by first | omega | exact Nat.le_refl _) _ | refine c_call ?_ (by assumption))); first | done | fail "open")) ?_
        clear hK K
        have hN4 := hN3.call hx4
        clear hr8 hrs
        have hS9 := hkeep x4 (by (repeat (first | exact c_refl _ | refine c_drew ?_ | refine c_alloc ?_ _ | refine c_row ?_ (by first | omega | exact Nat.le_refl _) _ | refine c_call ?_ (by assumption))); first | done | fail "open")
        refine takeD 7 (some 17) (.tuple #[.agg (keyC kk), .int .i64 0]) rfl rfl (by kernel_rfl) (by kernel_rfl) (by kernel_rfl) (by kernel_rfl) (fun _ _ _ h => h) (Or.inl ⟨by kernel_rfl, fun wx hSw => by go_simp⟩) hS9 ?_
        simp only [Act.put, List.setIfInBounds_toArray, List.set_cons_zero, List.set_cons_succ]
        refine takeD 8 (some 25) (.agg (keyC kk)) rfl rfl (by kernel_rfl) (by kernel_rfl) (by kernel_rfl) (by kernel_rfl) (fun _ _ _ h => h) (Or.inl ⟨by kernel_rfl, fun wx hSw => by go_simp⟩) hS9 ?_
        simp only [Act.put, List.setIfInBounds_toArray, List.set_cons_zero, List.set_cons_succ]
        refine takeD 9 (some 26) (.int .i64 0) rfl rfl (by kernel_rfl) (by kernel_rfl) (by kernel_rfl) (by kernel_rfl) (fun _ _ _ h => h) (Or.inl ⟨by kernel_rfl, fun wx hSw => by go_simp⟩) hS9 ?_
        simp only [Act.put, List.setIfInBounds_toArray, List.set_cons_zero, List.set_cons_succ]
        have hset := Ms.set hN4 hgx hnx (keyC kk)
        refine oneT 11 (by kernel_rfl) rfl (fun K hK => ?_)
        refine step_store_row rfl 24 (.tmp 5) (.tmp 25) rfl (x1.heap.size) (keyC kk) rfl rfl 24 _ (hN4.get 0 rfl) Hsk.out Hzk.out Hok.out ?_
        refine hK.out _ _ (fun _ => ⟨(hset.get 3 rfl).seed, (hset.get 3 rfl).nth Hs.out⟩) ?_
        clear hK K
        refine oneT 12 (by kernel_rfl) rfl (fun K hK => ?_)
        go_simp
        refine hK.out _ _ (fun _ => ⟨(hset.get 3 rfl).seed, (hset.get 3 rfl).nth Hs.out⟩) ?_
        clear hK K
        refine doneT (by kernel_rfl) ?_ _
        go_wp2_with fail
        go_meet
        exact ⟨_, rfl, rfl, hgz, hset⟩
    · go_simp
      refine hK.out _ _ (fun _ => hkeep _ (by (repeat (first | exact c_refl _ | refine c_drew ?_ | refine c_alloc ?_ _ | refine c_row ?_ (by first | omega | exact Nat.le_refl _) _ | refine c_call ?_ (by assumption))); first | done | fail "open")) ?_
      clear hK K
      have hnx := fun p hp => Nat.ne_of_lt ((hD.rows p hp).lt)
      have hgx := hD.old.size
      have hgz := (hD.get 0 rfl).lt
      have hx1 := d_al x0 (.cells #[.int .u8 0, .int .u8 0, .int .u8 0, .int .u8 0, .int .u8 0, .int .u8 0, .int .u8 0, .int .u8 0, .int .u8 0, .int .u8 0, .int .u8 0, .int .u8 0, .int .u8 0, .int .u8 0, .int .u8 0, .int .u8 0, .int .u8 0, .int .u8 0, .int .u8 0, .int .u8 0, .int .u8 0, .int .u8 0, .int .u8 0, .int .u8 0, .int .u8 0, .int .u8 0, .int .u8 0, .int .u8 0, .int .u8 0, .int .u8 0, .int .u8 0, .int .u8 0] 24)
      have hN1 := hD.box 24 #[.int .u8 0, .int .u8 0, .int .u8 0, .int .u8 0, .int .u8 0, .int .u8 0, .int .u8 0, .int .u8 0, .int .u8 0, .int .u8 0, .int .u8 0, .int .u8 0, .int .u8 0, .int .u8 0, .int .u8 0, .int .u8 0, .int .u8 0, .int .u8 0, .int .u8 0, .int .u8 0, .int .u8 0, .int .u8 0, .int .u8 0, .int .u8 0, .int .u8 0, .int .u8 0, .int .u8 0, .int .u8 0, .int .u8 0, .int .u8 0, .int .u8 0, .int .u8 0]
      generalize (x0.alloc (.cells #[.int .u8 0, .int .u8 0, .int .u8 0, .int .u8 0, .int .u8 0, .int .u8 0, .int .u8 0, .int .u8 0, .int .u8 0, .int .u8 0, .int .u8 0, .int .u8 0, .int .u8 0, .int .u8 0, .int .u8 0, .int .u8 0, .int .u8 0, .int .u8 0, .int .u8 0, .int .u8 0, .int .u8 0, .int .u8 0, .int .u8 0, .int .u8 0, .int .u8 0, .int .u8 0, .int .u8 0, .int .u8 0, .int .u8 0, .int .u8 0, .int .u8 0, .int .u8 0] 24)) = x1 at *
      refine oneT 4 (by kernel_rfl) rfl (fun K hK => ?_)
      go_simp
      refine (hby _).mono ?_
      rintro e x2 ⟨A1, c1, rfl, ho1, hx2⟩
      refine hK.out _ _ (fun _ => hkeep _ (by (repeat (first | exact c_refl _ | refine c_drew ?_ | refine c_alloc ?_ _ | refine c_row ?_ (by first | omega | exact Nat.le_refl _) _ | refine c_call ?_ (by assumption))); first | done | fail "open")) ?_
      clear hK K
      have hN2 := hN1.call hx2
      have hr8 := Rd.of_own ho1
      have h8c := capD ho1
      clear ho1
      refine oneT 5 (by kernel_rfl) rfl (fun K hK => ?_)
      go_simp
      refine hK.out _ _ (fun _ => hkeep _ (by (repeat (first | exact c_refl _ | refine c_drew ?_ | refine c_alloc ?_ _ | refine c_row ?_ (by first | omega | exact Nat.le_refl _) _ | refine c_call ?_ (by assumption))); first | done | fail "open")) ?_
      clear hK K
      have hx3 := d_al x2 (.cells #[.slice A1 8 c1] 45)
      have hN3 := hN2.call hx3
      have hrs : Rd (x2.alloc (.cells #[.slice A1 8 c1] 45)) (x2.alloc (.cells #[.slice A1 8 c1] 45)).heap.size (some ⟨x2.heap.size, 0, none⟩) 1 [.slice A1 8 c1] := Rd.mk_ _ _ _ rfl (by simp) rfl rfl
      have hr8 := d_rd hr8 hx3
      generalize (x2.alloc (.cells #[.slice A1 8 c1] 45)) = x3 at *
      refine oneT 6 (by kernel_rfl) rfl (fun K hK => ?_)
      go_simp
      refine (hdr _ _ _ _ (hT1.below (by (repeat (first | exact c_refl _ | refine c_drew ?_ | refine c_alloc ?_ _ | refine c_row ?_ (by first | omega | exact Nat.le_refl _) _ | refine c_call ?_ (by assumption))); first | done | fail "open")) h8c hr8 hrs).mono ?_
      rintro e x4 ⟨rfl, hx4⟩
      refine hK.out _ _ (fun _ => hkeep _ (by (repeat (first | exact c_refl _ | refine c_drew ?_ | refine c_alloc ?_ _ | refine c_row ?_ (by first | omega | exact Nat.le_refl _) _ | refine c_call ?_ (by assumption))); first | done | fail "open")) ?_
      clear hK K
      have hN4 := hN3.call hx4
      clear hr8 hrs
      have hS9 := hkeep x4 (by (repeat (first | exact c_refl _ | refine c_drew ?_ | refine c_alloc ?_ _ | refine c_row ?_ (by first | omega | exact Nat.le_refl _) _ | refine c_call ?_ (by assumption))); first | done | fail "open")
      refine takeD 7 (some 17) (.tuple #[.agg (keyC kk), .int .i64 0]) rfl rfl (by kernel_rfl) (by kernel_rfl) (by kernel_rfl) (by kernel_rfl) (fun _ _ _ h => h) (Or.inl ⟨by kernel_rfl, fun wx hSw => by go_simp⟩) hS9 ?_
      simp only [Act.put, List.setIfInBounds_toArray, List.set_cons_zero, List.set_cons_succ]
      refine takeD 8 (some 25) (.agg (keyC kk)) rfl rfl (by kernel_rfl) (by kernel_rfl) (by kernel_rfl) (by kernel_rfl) (fun _ _ _ h => h) (Or.inl ⟨by kernel_rfl, fun wx hSw => by go_simp⟩) hS9 ?_
      simp only [Act.put, List.setIfInBounds_toArray, List.set_cons_zero, List.set_cons_succ]
      refine takeD 9 (some 26) (.int .i64 0) rfl rfl (by kernel_rfl) (by kernel_rfl) (by kernel_rfl) (by kernel_rfl) (fun _ _ _ h => h) (Or.inl ⟨by kernel_rfl, fun wx hSw => by go_simp⟩) hS9 ?_
      simp only [Act.put, List.setIfInBounds_toArray, List.set_cons_zero, List.set_cons_succ]
      have hset := Ms.set hN4 hgx hnx (keyC kk)
      refine oneT 11 (by kernel_rfl) rfl (fun K hK => ?_)
      refine step_store_row rfl 24 (.tmp 5) (.tmp 25) rfl (x0.heap.size) (keyC kk) rfl rfl 24 _ (hN4.get 0 rfl) Hsk.out Hzk.out Hok.out ?_
      refine hK.out _ _ (fun _ => ⟨(hset.get 3 rfl).seed, (hset.get 3 rfl).nth Hs.out⟩) ?_
      clear hK K
      refine oneT 12 (by kernel_rfl) rfl (fun K hK => ?_)
      go_simp
      refine hK.out _ _ (fun _ => ⟨(hset.get 3 rfl).seed, (hset.get 3 rfl).nth Hs.out⟩) ?_
      clear hK K
      refine doneT (by kernel_rfl) ?_ _
      go_wp2_with fail
      go_meet
      exact ⟨_, rfl, rfl, hgz, hset⟩
  case rest =>
    obtain ⟨g5, rfl, rfl, hg5, hM4⟩ := hcut
    clear hM hdr hby
    have hun := Tryd.underlying24
    have hss : (Tryd.prog.info? 24).map (·.size) = some (keyC s).toList.length := by simpa using sizeKey Hs.out
    have hsk : (Tryd.prog.info? 24).map (·.size) = some (keyC kk).toList.length := by simpa using Hsk.out
    have hkeep : ∀ wx : World, Below wc.heap.size wc wx → wx.rangeAt g5 0 (keyC kk).toList ∧ wx.rangeAt w.heap.size 0 (keyC s).toList ∧ wx.cell? ⟨w.heap.size, 32, none⟩ = some (.int .u64 (N : Int)) := fun wx hb => ⟨((hM4.get 0 rfl).call hb).range, ((hM4.get 3 rfl).call hb).seed, ((hM4.get 3 rfl).call hb).nth Hs.out⟩
    have hM9 := hM4.drew
    go_wp2_with fail
    refine beginT (fun wx => wx.rangeAt g5 0 (keyC kk).toList ∧ wx.rangeAt w.heap.size 0 (keyC s).toList ∧ wx.cell? ⟨w.heap.size, 32, none⟩ = some (.int .u64 (N : Int))) 10 (by kernel_rfl) ?_
    have hS := hkeep _ (c_drew (c_refl _))
    refine loadT 0 (some 27) 24 (.tmp 5) g5 0 (keyC kk).toList rfl rfl (by kernel_rfl) (by kernel_rfl) (by kernel_rfl) (by kernel_rfl) rfl (by kernel_rfl) rfl (fun wx hSw => hSw.1) hun rfl hsk (fun _ _ _ h => h) hS ?_
    simp only [Act.put, List.setIfInBounds_toArray, List.set_cons_zero, List.set_cons_succ, Array.toArray_toList]
    refine takeD 1 (some 28) (.pointer (some ⟨w.heap.size, 0, none⟩)) rfl rfl (by kernel_rfl) (by kernel_rfl) (by kernel_rfl) (by kernel_rfl) (fun _ _ _ h => h) (Or.inl ⟨by kernel_rfl, fun wx hSw => by go_simp⟩) hS ?_
    simp only [Act.put, List.setIfInBounds_toArray, List.set_cons_zero, List.set_cons_succ]
    refine loadT 2 (some 29) 24 (.tmp 28) w.heap.size 0 (keyC s).toList rfl rfl (by kernel_rfl) (by kernel_rfl) (by kernel_rfl) (by kernel_rfl) rfl (by kernel_rfl) rfl (fun wx hSw => hSw.2.1) hun rfl hss (fun _ _ _ h => h) hS ?_
    simp only [Act.put, List.setIfInBounds_toArray, List.set_cons_zero, List.set_cons_succ, Array.toArray_toList]
    refine takeD 3 (some 30) (.pointer (some ⟨w.heap.size, 32, none⟩)) rfl rfl (by kernel_rfl) (by kernel_rfl) (by kernel_rfl) (by kernel_rfl) (fun _ _ _ h => h) (Or.inl ⟨by kernel_rfl, fun wx hSw => by go_simp⟩) hS ?_
    simp only [Act.put, List.setIfInBounds_toArray, List.set_cons_zero, List.set_cons_succ]
    refine takeD 4 (some 31) (.int .u64 (N : Int)) rfl rfl (by kernel_rfl) (by kernel_rfl) (by kernel_rfl) (by kernel_rfl) (fun _ _ _ h => h) (Or.inl ⟨by kernel_rfl, fun wx hSw => by have h := hSw.2.2; go_simp⟩) hS ?_
    simp only [Act.put, List.setIfInBounds_toArray, List.set_cons_zero, List.set_cons_succ]
    refine takeD 5 (some 32) (.int .u64 (N' : Int)) rfl rfl (by kernel_rfl) (by kernel_rfl) (by kernel_rfl) (by kernel_rfl) (fun _ _ _ h => h) (Or.inl ⟨by kernel_rfl, fun wx hSw => by go_simp⟩) hS ?_
    simp only [Act.put, List.setIfInBounds_toArray, List.set_cons_zero, List.set_cons_succ]
    refine takeD 6 (some 33) (.agg (drC s N')) rfl rfl (by kernel_rfl) (by kernel_rfl) (by kernel_rfl) (by kernel_rfl) (fun _ _ _ h => h) (yields_build (by kernel_rfl) 27 _ rfl #[(0, .agg (keyC s)), (1, .int .u64 (N' : Int))] (by kernel_rfl) _ Hbd.out) hS ?_
    simp only [Act.put, List.setIfInBounds_toArray, List.set_cons_zero, List.set_cons_succ]
    have q1 : g5 ≠ w.heap.size + 1 := by omega
    have q2 : w.heap.size ≠ w.heap.size + 1 := by omega
    have q3 : g5 ≠ w.heap.size + 1 + 1 := by omega
    have q4 : w.heap.size ≠ w.heap.size + 1 + 1 := by omega
    refine oneT 7 (by kernel_rfl) rfl (fun K hK => ?_)
    refine step_store_row rfl 24 (.tmp 2) (.tmp 27) rfl (w.heap.size + 1) (keyC kk) rfl rfl 24 _ (hM9.get 2 rfl) Hsk.out Hzk.out Hok.out ?_
    refine hK.out _ _ (fun _ => ⟨((hM9.get 0 rfl).rowFar q1 _).range, ((hM9.get 3 rfl).rowFar q2 _).seed, ((hM9.get 3 rfl).rowFar q2 _).nth Hs.out⟩) ?_
    clear hK K
    refine oneT 8 (by kernel_rfl) rfl (fun K hK => ?_)
    refine step_store_row rfl 27 (.tmp 3) (.tmp 33) rfl (w.heap.size + 1 + 1) (drC s N') rfl rfl 27 _ ((hM9.get 1 rfl).rowFar (by omega) _) Hsn.out Hzn.out Hon.out ?_
    refine hK.out _ _ (fun _ => ⟨(((hM9.get 0 rfl).rowFar q1 _).rowFar q3 _).range, (((hM9.get 3 rfl).rowFar q2 _).rowFar q4 _).seed, (((hM9.get 3 rfl).rowFar q2 _).rowFar q4 _).nth Hs.out⟩) ?_
    clear hK K
    refine oneT 9 (by kernel_rfl) rfl (fun K hK => ?_)
    go_simp
    refine hK.out _ _ (fun _ => ⟨(((hM9.get 0 rfl).rowFar q1 _).rowFar q3 _).range, (((hM9.get 3 rfl).rowFar q2 _).rowFar q4 _).seed, (((hM9.get 3 rfl).rowFar q2 _).rowFar q4 _).nth Hs.out⟩) ?_
    clear hK K
    refine doneT (by kernel_rfl) ?_ _
    go_wp2_with fail
    exact bodyPost_ret (results_ccT rfl _ _ (w.heap.size + 1) (w.heap.size + 1 + 1) 24 27 (keyC kk) (drC s N') _ _ rfl (((hM9.get 2 rfl).row _).rowFar (by omega) _) rfl (((hM9.get 1 rfl).rowFar (by omega) _).row _) Tryd.underlying24 rfl Tryd.underlying27 rfl Hsk.out Hsn.out) rfl ⟨by rw [Hfin.out]; rfl, below_setRow (below_setRow hM9.old (by omega) _) (by omega) _⟩

end Go.Proofs.YtgjeamapgdakcaaDoor

