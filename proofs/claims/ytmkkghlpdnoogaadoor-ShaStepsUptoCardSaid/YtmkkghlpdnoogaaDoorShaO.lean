/-
  CONTRACTS of the program's Sum, Write, Done (package sha).
-/
import Derived.Test.YtmkkghlpdnoogaaDoorShaN
set_option linter.unusedVariables false
namespace Go.Proofs.YtmkkghlpdnoogaaDoor
open Go.RowKit

theorem results_cell_tmp {P : Program} {fn : Func} {p q : Tmp} {ty : TypeId} (h : fn.results = #[.cell p ty, .tmp q]) (tmps : Array Value) (w : World) (g : Nat) (t : TypeId) (cs : Array Value) (fr : Nat × Nat) (d : TypeDesc)
    (hp : tmps.getD p undef = .pointer (some ⟨g, 0, none⟩)) (hg : w.heap[g]? = some (.cells cs t fr))
    (hu : P.underlying ty = some d) (hd : (match d with | .struct _ | .array _ _ => true | _ => false) = true) (hi : (P.info? ty).map (·.size) = some cs.size) :
    (results fn tmps).run P w = .ok (.tuple #[.agg cs, tmps.getD q undef]) w := by
  have hp' : tmps[p]?.getD undef = .pointer (some ⟨g, 0, none⟩) := by simpa using hp
  simp [results, h, hp', asAddr, run_loadVar_row w g t ty cs fr d hg hu hd hi]

def zeroSha : List Value := shaL zero8 0 (.slice none 0 0)
theorem zeroSha_def : zeroSha = shaL zero8 0 (.slice none 0 0) := rfl

theorem chk_true {h : List UInt32} {n k : Nat} (hc : chkU h n k = true) : n ≤ 1099511627776 ∧ k = n % 64 := by
  simp [chkU] at hc
  omega

/-- the blocks of a beginning -/
theorem blocksTo_app (h : List UInt32) (a b : List UInt8) : ∀ q, 64 * q ≤ a.length → blocksTo h (a ++ b) q = blocksTo h a q
  | 0, _ => rfl
  | q + 1, hq => by
    have ih := blocksTo_app h a b q (by omega)
    have e : chunk (a ++ b) q = chunk a q := by
      unfold chunk
      rw [List.drop_append_of_le_length (by omega), List.take_append_of_le_length (by simp; omega)]
    rw [blocksTo, blocksTo, ih, e]
theorem blocksTo_add (h : List UInt32) (l : List UInt8) (q : Nat) : ∀ r, blocksTo h l (q + r) = blocksTo (blocksTo h l q) (l.drop (64 * q)) r
  | 0 => rfl
  | r + 1 => by
    have ih := blocksTo_add h l q r
    have e : chunk (l.drop (64 * q)) r = chunk l (q + r) := by
      unfold chunk
      rw [List.drop_drop, show 64 * q + 64 * r = 64 * (q + r) by omega]
    rw [show q + (r + 1) = (q + r) + 1 from rfl, blocksTo, blocksTo, ih, e]

/-- what is written on, and done, is all, done -/
theorem doneU_all (h : List UInt32) (l : List UInt8) (n : Nat) : doneU (blocksTo h l (l.length / 64)) n (l.drop (64 * (l.length / 64))) = bytesU (blocksTo h (l ++ tailU n) ((l ++ tailU n).length / 64)) := by
  unfold doneU
  have hq : 64 * (l.length / 64) ≤ l.length := by omega
  have e1 : (l ++ tailU n).length / 64 = l.length / 64 + ((l.drop (64 * (l.length / 64)) ++ tailU n).length / 64) := by
    simp only [List.length_append, List.length_drop]
    omega
  rw [e1, blocksTo_add, blocksTo_app h l _ _ hq, List.drop_append_of_le_length hq]

theorem sum_done (l : List UInt8) : doneU (blocksTo firstU l (l.length / 64)) l.length (l.drop (64 * (l.length / 64))) = sumU l := by
  rw [doneU_all, sumU, padU_tail]

theorem key_zero : (Tryd.prog.info? 36).map (·.size) = some ((List.replicate 32 (0 : UInt8)).map bv).toArray.size := by rw [info32]; rfl

set_option maxRecDepth 1000000 in
set_option maxHeartbeats 400000 in
theorem pSum_any (At : Option Addr) (m ct : Nat) (vs : List Value) (ts : List (List UInt8)) (w : World) (hm : m ≤ 5864062014805) (htot : ts.flatten.length ≤ 1099511627776)
    (hv : Rd w w.heap.size At m vs) (ht : Txs w w.heap.size vs ts) (hT : CTab w) :
    Calls Tryd.prog 35 #[.slice At m ct] w fun e w' => e = .returned (.agg ((sumU ts.flatten).map bv).toArray) ∧ Below w.heap.size w w' := by
  have Htot := Lib.hid htot
  clear htot
  go_enter Tryd.func35, Tryd.ntmps35
  go_wp2_with fail
  refine (New_any _).mono ?_
  rintro e w2 ⟨rfl, hb2⟩
  have hb02 : Below w.heap.size w w2 := ((Below.refl _ _).alloc (Nat.le_refl _) _).trans (hb2.mono (al0 _ _))
  have hR2 : ArrB w2 w.heap.size 36 (List.replicate 32 0) := by
    refine (ArrB.mk_ w _ _ (List.replicate 32 0) rfl ?_).below hb2 (by simp)
    rfl
  go_wp2_with fail
  refine (taken_any firstU 0 none 0 0 [] At m ct vs ts _ rfl (by omega) (Rd.zero _ _ _) hm Htot.out (by omega) ((hv.below hb02).more hb02.size) ((ht.below hb02).more hb02.size) (hT.below hb02)).mono ?_
  rintro e w3 ⟨A3, k3, c3, rfl, hown3, hb3⟩
  rw [List.nil_append, Nat.zero_add] at *
  have hk3 : k3 < 64 := by have := hown3.1; rw [List.length_map, List.length_drop] at this; omega
  have hb03 : Below w.heap.size w w3 := hb02.trans (hb3.mono hb02.size)
  have hl3 := blocksTo_len (h := firstU) rfl ts.flatten (ts.flatten.length / 64)
  have Hs := Lib.hid (sum_done ts.flatten)
  have hR3 := hR2.below hb3 hR2.lt
  have hC3 := hT.below hb03
  generalize hg1 : blocksTo firstU ts.flatten (ts.flatten.length / 64) = hf at *
  generalize hg2 : ts.flatten.drop (64 * (ts.flatten.length / 64)) = rf at *
  generalize hg3 : ts.flatten.length = nf at *
  clear hg1 hg2 hg3
  have Hl3 := Lib.hid hl3
  clear hl3
  go_wp2_with fail
  refine (closed_any hf nf A3 k3 c3 rf _ Hl3.out hk3 (Rd.of_own hown3) Htot.out hC3).mono ?_
  rintro e w4 ⟨rfl, hb4⟩
  rw [Hs.out]
  have hls : (sumU ts.flatten).length = 32 := by rw [sumU, bytesU_len, blocksTo_len rfl]
  have Hf := Lib.hid (show (Tryd.prog.info? 36).map (·.size) = some (((sumU ts.flatten).map bv).toArray).size by rw [info32]; simp [hls])
  have Hz := Lib.hid (show ((List.replicate 32 (0 : UInt8)).map bv).toArray.size = (((sumU ts.flatten).map bv).toArray).size by simp [hls])
  clear hls
  generalize hgb : sumU ts.flatten = b at *
  have Hgb := Lib.hid hgb
  clear hgb
  have hR4 := hR3.below hb4 hR3.lt
  go_wp2_with ((with_reducible show wpList _ _ _ (⟨none, Op.store 36 _ _, _, _, _, _⟩ :: _) _ _); refine wpList_store_row rfl 36 (.tmp 2) (.tmp 6) rfl w.heap.size (b.map bv).toArray rfl rfl 36 _ hR4 Hf.out Hz.out (one_bvA _) ?_)
  exact bodyPost_ret (results_cell_row rfl _ _ w.heap.size 36 _ (0, 0) _ rfl (hR4.row b) Tryd.underlying36 rfl Hf.out) rfl ⟨by rw [Hgb.out], below_setRow (hb03.trans (hb4.mono hb03.size)) (Nat.le_refl _) _⟩

theorem errK (b : Bool) : errC b = if b then 0 else 1 := rfl

set_option maxRecDepth 1000000 in
theorem Write_bad (h : List UInt32) (n : Nat) (A : Option Addr) (k c : Nat) (At : Option Addr) (m ct : Nat) (w : World) (hh : h.length = 8) (hn : n < 18446744073709551616) (hk : k ≤ 9223372036854775807) (hc : chkU h n k = false) :
    Calls Tryd.prog 14 #[.agg (shaL h n (.slice A k c)).toArray, .slice At m ct] w fun e w' => e = .returned (.tuple #[.agg zeroSha.toArray, .int .i64 1]) ∧ Below w.heap.size w w' := by
  have Hh := Lib.hid hh
  have Hc := Lib.hid hc
  have I10 := Lib.hid (show (Tryd.prog.info? 27).map (·.size) = some ((shaL h n (.slice A k c)).toArray).size by rw [infoSha]; simp [shaL_len hh])
  clear hh hc
  go_enter Tryd.func14, Tryd.ntmps14
  go_wp2_with ((with_reducible show wpList _ _ _ (⟨some 7, _, _, _, _, _⟩ :: _) _ _); refine wpList_load_row rfl 27 (.tmp 2) rfl w.heap.size rfl 27 (shaL h n (.slice A k c)).toArray (0, 0) _ ((heap_alloc_old _ _ (by simp)).trans (heap_alloc_new _ _)) Tryd.underlying27 rfl I10.out ?_)
  refine (Check_any h n A k c _ Hh.out hn hk).mono ?_
  rintro e w2 ⟨rfl, hb2⟩
  rw [Hc.out, errK]
  have hR2 : w2.heap[w.heap.size + 1]? = some (.cells zeroSha.toArray 27 (0, 0)) := (hb2.block _ (by simp)).trans (heap_new (by simp) _)
  have hb02 : Below w.heap.size w w2 := (((Below.refl _ _).alloc (Nat.le_refl _) _).alloc (al0 _ _) _).trans (hb2.mono (Nat.le_trans (al0 _ _) (al0 _ _)))
  go_wp2_with ((with_reducible show wpList _ _ _ (⟨none, Op.store 27 _ _, _, _, _, _⟩ :: _) _ _); refine wpList_store_row rfl 27 (.tmp 4) (.tmp 11) rfl (w.heap.size + 1) zeroSha.toArray rfl rfl 27 _ hR2 infoSha rfl (one_sha _ _ _ _ _) ?_)
  exact bodyPost_ret (results_cell_tmp rfl _ _ (w.heap.size + 1) 27 _ (0, 0) _ rfl (setRow_heap _ _ _ _ _ _ hR2) Tryd.underlying27 rfl infoSha) rfl ⟨rfl, below_setRow hb02 (by omega) _⟩

set_option maxRecDepth 1000000 in
theorem Write_long (h : List UInt32) (n : Nat) (A : Option Addr) (k c : Nat) (rest : List UInt8) (At : Option Addr) (m ct : Nat) (vs : List Value) (ts : List (List UInt8)) (w : World) (hh : h.length = 8) (hn : n < 18446744073709551616) (hr : Rd w w.heap.size A k (rest.map bv)) (hm : m ≤ 5864062014805) (hl : ∀ t ∈ ts, t.length ≤ 9223372036854775807) (hv : Rd w w.heap.size At m vs) (ht : Txs w w.heap.size vs ts) (hc : chkU h n k = true) (hrm : roomB n ts.flatten.length = false) :
    Calls Tryd.prog 14 #[.agg (shaL h n (.slice A k c)).toArray, .slice At m ct] w fun e w' => e = .returned (.tuple #[.agg zeroSha.toArray, .int .i64 4]) ∧ Below w.heap.size w w' := by
  have Hrm := Lib.hid hrm
  clear hrm
  have Hh := Lib.hid hh
  have Hc := Lib.hid hc
  have Hl := Lib.hid hl
  obtain ⟨hn1, hk1⟩ := chk_true hc
  have hk : k < 64 := by omega
  have I10 := Lib.hid (show (Tryd.prog.info? 27).map (·.size) = some ((shaL h n (.slice A k c)).toArray).size by rw [infoSha]; simp [shaL_len hh])
  clear hh hc hk1 hl
  go_enter Tryd.func14, Tryd.ntmps14
  go_wp2_with ((with_reducible show wpList _ _ _ (⟨some 7, _, _, _, _, _⟩ :: _) _ _); refine wpList_load_row rfl 27 (.tmp 2) rfl w.heap.size rfl 27 (shaL h n (.slice A k c)).toArray (0, 0) _ ((heap_alloc_old _ _ (by simp)).trans (heap_alloc_new _ _)) Tryd.underlying27 rfl I10.out ?_)
  refine (Check_any h n A k c _ Hh.out hn (by omega)).mono ?_
  rintro e w2 ⟨rfl, hb2⟩
  rw [Hc.out, errK]
  have hR2 : w2.heap[w.heap.size + 1]? = some (.cells zeroSha.toArray 27 (0, 0)) := (hb2.block _ (by simp)).trans (heap_new (by simp) _)
  have hS2 : ShaAt w2 w.heap.size h n (.slice A k c) := (ShaAt.alloc ⟨Hh.out, heap_alloc_new _ _⟩ _).below hb2 (by simp; omega)
  have hb02 : Below w.heap.size w w2 := (((Below.refl _ _).alloc (Nat.le_refl _) _).alloc (al0 _ _) _).trans (hb2.mono (Nat.le_trans (al0 _ _) (al0 _ _)))
  have cN2 := hS2.cellN
  go_wp2_with (first
    | (go_at_call 37; refine (haveRoom_any n At m ct vs ts _ w.heap.size hn1 hm (hv.below hb02) (ht.below hb02) Hl.out).mono ?_; rintro e w3 ⟨rfl, rfl⟩; rw [Hrm.out])
    | ((with_reducible show wpList _ _ _ (⟨none, Op.store 27 _ _, _, _, _, _⟩ :: _) _ _); refine wpList_store_row rfl 27 (.tmp 4) (.tmp 18) rfl (w.heap.size + 1) zeroSha.toArray rfl rfl 27 _ hR2 infoSha rfl (one_sha _ _ _ _ _) ?_))
  exact bodyPost_ret (results_cell_tmp rfl _ _ (w.heap.size + 1) 27 _ (0, 0) _ rfl (setRow_heap _ _ _ _ _ _ hR2) Tryd.underlying27 rfl infoSha) rfl ⟨rfl, below_setRow hb02 (by omega) _⟩

/-- what Write answers where all is well -/
def WriteOk (h : List UInt32) (n : Nat) (all : List UInt8) (m : Nat) (w : World) (e : Ending) (w' : World) : Prop :=
  ∃ A' k' c', e = .returned (.tuple #[.agg (shaL (blocksTo h all (all.length / 64)) (n + m) (.slice A' k' c')).toArray, .int .i64 0]) ∧
    w'.ownsRow w.heap.size 5 1 (.slice A' k' c') k' ((all.drop (64 * (all.length / 64))).map bv) ∧ Below w.heap.size w w'

set_option maxRecDepth 1000000 in
set_option maxHeartbeats 400000 in
theorem Write_ok (h : List UInt32) (n : Nat) (A : Option Addr) (k c : Nat) (rest : List UInt8) (At : Option Addr) (m ct : Nat) (vs : List Value) (ts : List (List UInt8)) (w : World) (hh : h.length = 8) (hn : n < 18446744073709551616) (hr : Rd w w.heap.size A k (rest.map bv)) (hm : m ≤ 5864062014805) (hl : ∀ t ∈ ts, t.length ≤ 9223372036854775807) (hv : Rd w w.heap.size At m vs) (ht : Txs w w.heap.size vs ts) (hc : chkU h n k = true) (hT : CTab w) (hrm : roomB n ts.flatten.length = true) :
    Calls Tryd.prog 14 #[.agg (shaL h n (.slice A k c)).toArray, .slice At m ct] w (WriteOk h n (rest ++ ts.flatten) ts.flatten.length w) := by
  have Hrm := Lib.hid hrm
  have htot : ts.flatten.length ≤ 1099511627776 := by simp only [roomB, decide_eq_true_eq] at hrm; omega
  have Htot := Lib.hid htot
  clear hrm htot
  obtain ⟨tot, hto⟩ : ∃ tot, tot = ts.flatten.length := ⟨_, rfl⟩
  rw [← hto]
  have Hto := Lib.hid hto
  clear hto
  have Hh := Lib.hid hh
  have Hc := Lib.hid hc
  have Hl := Lib.hid hl
  obtain ⟨hn1, hk1⟩ := chk_true hc
  have hk : k < 64 := by omega
  have I10 := Lib.hid (show (Tryd.prog.info? 27).map (·.size) = some ((shaL h n (.slice A k c)).toArray).size by rw [infoSha]; simp [shaL_len hh])
  clear hh hc hk1 hl
  go_enter Tryd.func14, Tryd.ntmps14
  go_wp2_with ((with_reducible show wpList _ _ _ (⟨some 7, _, _, _, _, _⟩ :: _) _ _); refine wpList_load_row rfl 27 (.tmp 2) rfl w.heap.size rfl 27 (shaL h n (.slice A k c)).toArray (0, 0) _ ((heap_alloc_old _ _ (by simp)).trans (heap_alloc_new _ _)) Tryd.underlying27 rfl I10.out ?_)
  refine (Check_any h n A k c _ Hh.out hn (by omega)).mono ?_
  rintro e w2 ⟨rfl, hb2⟩
  rw [Hc.out, errK]
  have hR2 : w2.heap[w.heap.size + 1]? = some (.cells zeroSha.toArray 27 (0, 0)) := (hb2.block _ (by simp)).trans (heap_new (by simp) _)
  have hS2 : ShaAt w2 w.heap.size h n (.slice A k c) := (ShaAt.alloc ⟨Hh.out, heap_alloc_new _ _⟩ _).below hb2 (by simp; omega)
  have hb02 : Below w.heap.size w w2 := (((Below.refl _ _).alloc (Nat.le_refl _) _).alloc (al0 _ _) _).trans (hb2.mono (Nat.le_trans (al0 _ _) (al0 _ _)))
  have cN2 := hS2.cellN
  go_wp2_with (first
    | (go_at_call 37; refine (haveRoom_any n At m ct vs ts _ w.heap.size hn1 hm (hv.below hb02) (ht.below hb02) Hl.out).mono ?_; rintro e w3 ⟨rfl, rfl⟩; rw [Hrm.out])
    | ((with_reducible show wpList _ _ _ (⟨some 19, _, _, _, _, _⟩ :: _) _ _); refine wpList_load_row rfl 27 (.tmp 2) rfl w.heap.size rfl 27 (shaL h n (.slice A k c)).toArray (0, 0) _ hS2.2 Tryd.underlying27 rfl I10.out ?_))
  refine (taken_any h n A k c rest At m ct vs ts _ Hh.out hk ((hr.below hb02).more hb02.size) hm Htot.out (by omega) ((hv.below hb02).more hb02.size) ((ht.below hb02).more hb02.size) (hT.below hb02)).mono ?_
  rintro e w3 ⟨A3, k3, c3, rfl, hown3, hb3⟩
  rw [← Hto.out]
  have hR3 : w3.heap[w.heap.size + 1]? = some (.cells zeroSha.toArray 27 (0, 0)) := (hb3.block _ (Array.getElem?_eq_some_iff.1 hR2).1).trans hR2
  have hb03 : Below w.heap.size w w3 := hb02.trans (hb3.mono hb02.size)
  have hl3 := blocksTo_len Hh.out (rest ++ ts.flatten) ((rest ++ ts.flatten).length / 64)
  have hlt := (Array.getElem?_eq_some_iff.1 hR2).1
  generalize hg1 : blocksTo h (rest ++ ts.flatten) ((rest ++ ts.flatten).length / 64) = hf at *
  generalize hg2 : n + tot = nf at *
  have Hg1 := Lib.hid hg1
  have Hg2 := Lib.hid hg2
  have Ho := Lib.hid (one_sha hf nf A3 k3 c3)
  have hsz := shaL_len hl3 nf (.slice A3 k3 c3)
  have Hi := Lib.hid (show (Tryd.prog.info? 27).map (·.size) = some ((shaL hf nf (.slice A3 k3 c3)).toArray).size by rw [infoSha]; simp [hsz])
  have Hz := Lib.hid (show zeroSha.toArray.size = ((shaL hf nf (.slice A3 k3 c3)).toArray).size by simp [hsz]; rfl)
  clear hg1 hg2 hsz hl3
  go_wp2_with ((with_reducible show wpList _ _ _ (⟨none, Op.store 27 _ _, _, _, _, _⟩ :: _) _ _); refine wpList_store_row rfl 27 (.tmp 4) (.tmp 21) rfl (w.heap.size + 1) (shaL hf nf (.slice A3 k3 c3)).toArray rfl rfl 27 _ hR3 Hi.out Hz.out Ho.out ?_)
  refine bodyPost_ret (results_cell_tmp rfl _ _ (w.heap.size + 1) 27 _ (0, 0) _ rfl (setRow_heap _ _ _ _ _ _ hR3) Tryd.underlying27 rfl Hi.out) rfl ⟨A3, k3, c3, ?_, ?_, below_setRow hb03 (by omega) _⟩
  · rw [Hg1.out, Hg2.out]
    rfl
  · refine own_far (own_base hown3 hb02.size) (by simp [World.setRow]) (fun g hg => setRow_other _ _ _ _ ?_)
    have := (hown3.lt g hg).1
    omega

end Go.Proofs.YtmkkghlpdnoogaaDoor
