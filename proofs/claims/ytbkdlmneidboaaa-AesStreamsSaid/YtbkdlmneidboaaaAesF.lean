/-
  CONTRACT of the program's newCipher (package aes): the boxes and the keys in one block.
-/
import Derived.Test.YtbkdlmneidboaaaAesE
import Derived.Laws.Tables
set_option linter.unusedVariables false
namespace Go.Proofs.Ytbkdlmneidboaaa
open Go.RowKit

theorem fold_set : ∀ (vs : List Value) (k : Nat) (zs : Array Value), k + vs.length ≤ zs.size →
    ((vs.zipIdx k).foldl (fun cs x => cs.setIfInBounds (0 + x.2) x.1) zs).toList = splice zs.toList k vs
  | [], k, zs, _ => by simp [splice]
  | v :: r, k, zs, h => by
    simp only [List.length_cons] at h
    simp only [List.zipIdx_cons, List.foldl_cons]
    rw [fold_set r (k + 1) _ (by simp; omega), Nat.zero_add, Array.toList_setIfInBounds, splice_set _ _ _ _ (by simp; omega)]

theorem fill_first (zs cs : Array Value) (place : Nat → Option (Nat × Nat)) (hp : place 0 = some (0, cs.size)) (h : cs.size ≤ zs.size) :
    Instr.fill place zs [(0, .agg cs)] = some (splice zs.toList 0 cs.toList).toArray := by
  have hc : (Value.agg cs).cells = cs := rfl
  simp only [Instr.fill, hp, hc]
  rw [if_neg (by simp; omega)]
  congr 1
  apply Array.ext'
  rw [← Array.foldl_toList, Array.toList_zipIdx]
  have := fold_set cs.toList 0 zs (by simpa using h)
  simpa using this

theorem infoCip : (Try.prog.info? 89).map (fun i => (i.zero, i.size, i.bytes)) = some (some (.agg (cz 432)), 432, 432) := by kernel_rfl
theorem sizeCip : (Try.prog.info? 89).map (·.size) = some 432 := by kernel_rfl
theorem placesCip : ∃ fields, Try.prog.underlying 89 = some (.struct fields) ∧ (fields.toList.mapM fun f => (Try.prog.info? f.type).map fun i => (f.offset, i.size)) = some [(0, 256), (256, 176)] :=
  ⟨_, Try.underlying89, by kernel_rfl⟩

set_option maxRecDepth 100000 in
theorem build_cip (T : List UInt8) (hT : T.length = 256) (w : World) :
    (Instr.build 89 #[(0, .agg (T.map bv).toArray)]).run Try.prog w = .ok (.agg ((T ++ List.replicate 176 0).map bv).toArray) w := by
  refine run_build w _ _ _ ?_
  obtain ⟨i0, hi0, hz0, hz1, hz2⟩ := info_parts infoCip
  obtain ⟨fields, hu, hp⟩ := placesCip
  unfold Program.built
  simp only [hi0, hu, hz0, hp]
  rw [show (Value.agg (cz 432)).cells = cz 432 from rfl, fill_first _ _ _ (by simp [hT]) (by simp [cz_size, hT])]
  rw [← cz_list, show (432 : Nat) = 256 + 176 from rfl, ← List.replicate_append_replicate]
  simp only [splice, List.map_append, List.take_zero, List.nil_append, Nat.zero_add, List.length_map, hT]
  rw [List.drop_append_of_le_length (by simp), List.drop_of_length_le (by simp)]
  simp

theorem wpList_buildR {P : Program} {ops : Array Oper} {rest : List Oper} {o : Oper} {a : Act} {w : World} {Q : Exit → Act → World → Prop} (hg : o.guard = none) (t : TypeId) (parts : Array (Nat × Operand)) (ho : o.op = .build t parts)
    (vals : Array (Nat × Value)) (hv : (parts.map fun (i, x) => (i, a.eval x)) = vals) (cells : Array Value) (hf : (Instr.build t vals).run P w = .ok (.agg cells) w)
    (h : wpList P ops Q rest (a.put o.dst (.agg cells)) w) : wpList P ops Q (o :: rest) a w := by
  subst hv
  refine wpList_plain hg fun _ hK => ?_
  unfold Oper.wp execOp
  simp only [ho, Sem.run_bind, hf, Result.andThen_ok, Sem.run_pure]
  exact hK _ _ h

/-- the first n keys -/
def kTo (k : List UInt8) (n : Nat) : List UInt8 := ((List.range n).map (keyU k)).flatten
theorem kTo_succ (k : List UInt8) (n : Nat) : kTo k (n + 1) = kTo k n ++ keyU k n := by simp [kTo, List.range_succ]
theorem kTo_len {k : List UInt8} (h : k.length = 16) : ∀ n, (kTo k n).length = 16 * n
  | 0 => rfl
  | n + 1 => by rw [kTo_succ, List.length_append, kTo_len h n, keyU_len h]; omega
theorem kTo_at {k : List UInt8} (h : k.length = 16) {i j : Nat} (hj : j < 16) : ∀ n, i < n → (kTo k n)[16 * i + j]? = (keyU k i)[j]?
  | 0, hi => by omega
  | n + 1, hi => by
    rw [kTo_succ]
    by_cases hn : i < n
    · rw [List.getElem?_append_left (by rw [kTo_len h]; omega)]
      exact kTo_at h hj n hn
    · obtain rfl : i = n := by omega
      rw [List.getElem?_append_right (by rw [kTo_len h]; omega), kTo_len h, show 16 * i + j - 16 * i = j by omega]
theorem keysU_kTo (k : List UInt8) : keysU k = kTo k 11 := rfl

/-- the keys behind i rounds of making them, zeros behind -/
def kZ (k : List UInt8) (i : Nat) : List UInt8 := kTo k i ++ List.replicate (176 - 16 * i) 0
theorem kZ_len {k : List UInt8} (h : k.length = 16) {i : Nat} (hi : i ≤ 11) : (kZ k i).length = 176 := by simp [kZ, kTo_len h]; omega
theorem kZ_all (k : List UInt8) : kZ k 11 = keysU k := by simp [kZ, keysU_kTo]
theorem kZ_store {k : List UInt8} (h : k.length = 16) {i : Nat} (hi : i ≤ 10) : splice (boxT ++ kZ k i) (256 + 16 * i) (keyU k i) = boxT ++ kZ k (i + 1) := by
  rw [kZ, ← List.append_assoc, show 256 + 16 * i = (boxT ++ kTo k i).length by rw [List.length_append, boxT_len, kTo_len h], splice_in _ _ _ (by simp [keyU_len h]; omega), keyU_len h, kZ, kTo_succ]
  simp
  omega

/-- key i as it lies in a cipher's block -/
theorem CipAt.key {w : World} {g : Nat} {k rest : List UInt8} (hk : k.length = 16) {n i : Nat} (h : CipAt w g (kTo k n ++ rest)) (hi : i < n) : w.rangeAt g (256 + 16 * i) ((keyU k i).map bv) := by
  intro j u hu
  have hj : j < 16 := by have := (List.getElem?_eq_some_iff.1 hu).1; simpa [keyU_len hk] using this
  have e : (keyU k i)[j]? = some (at0 (keyU k i) j) := at0_of (by rw [keyU_len hk]; exact hj)
  rw [List.getElem?_map, e] at hu
  obtain rfl : bv (at0 (keyU k i) j) = u := by simpa using hu
  refine ArrB.cell h ?_
  rw [List.getElem?_append_right (by rw [boxT_len]; omega), boxT_len, List.getElem?_append_left (by rw [kTo_len hk]; omega), show 256 + 16 * i + j - 256 = 16 * i + j by omega, kTo_at hk hj n hi, e]

theorem CipAt.there {w : World} {g : Nat} {K : List UInt8} (h : CipAt w g K) (hl : K.length = 176) {o n : Nat} (hn : o + n ≤ 432) : w.there g o n := fun j hj => by
  have e : (boxT ++ K)[o + j]? = some (at0 (boxT ++ K) (o + j)) := at0_of (by rw [List.length_append, boxT_len, hl]; omega)
  exact ⟨by rw [ArrB.cell h e]; rfl, ArrB.frozen h _⟩

theorem CipAt.put {w : World} {g i : Nat} {k : List UInt8} (hk : k.length = 16) (h : CipAt w g (kZ k i)) (hi : i ≤ 10) : CipAt (w.setCells g (256 + 16 * i) ((keyU k i).map bv)) g (kZ k (i + 1)) := by
  have h1 : w.heap[g]? = some (.cells ((boxT ++ kZ k i).map bv).toArray 89 (0, 0)) := h
  have h2 := setCells_heap g 89 ((keyU k i).map bv) ((boxT ++ kZ k i).map bv) (256 + 16 * i) w h1 (by simp [keyU_len hk, boxT_len, kZ_len hk (show i ≤ 11 by omega)]; omega)
  rw [splice_bytes, kZ_store hk hi] at h2
  exact h2

theorem load16 {w : World} {g o : Nat} {l : List UInt8} (h : w.rangeAt g o (l.map bv)) (hl : l.length = 16) :
    (loadVar 23 ⟨g, o, none⟩).run Try.prog w = .ok (.agg (l.map bv).toArray) w :=
  run_loadVar_mid w g o _ _ _ h Try.underlying23 rfl (size16L hl)

/-- a load of several cells, one step of what only reads in a region that draws its order -/
theorem wpStill_load {P : Program} {ops : Array Oper} {w : World} {Q : Act → Prop} {rest : List Oper} {op : Oper} {a : Act} (hgd : op.guard = none) (ty : TypeId) (x : Operand) (ho : op.op = .load ty x)
    (b o : Nat) (hx : a.eval x = .pointer (some ⟨b, o, none⟩)) (cs : List Value) (d : TypeDesc) (hc : w.rangeAt b o cs)
    (hu : P.underlying ty = some d) (hd : d.isRow = true) (hi : (P.info? ty).map (·.size) = some cs.length)
    (h : wpStill P ops w Q rest (a.put op.dst (.agg cs.toArray))) : wpStill P ops w Q (op :: rest) a := by
  refine wpStill_step fun K hK => ?_
  rw [if_pos (by simp [Region.wanted, hgd])]
  unfold Oper.still execOp
  simp only [ho, hx, Instr.loadAt, Instr.sureAddr, Sem.run_bind, Sem.run_pure, Result.andThen_ok, run_loadVar_mid w b o ty cs d hc hu hd hi]
  exact ⟨rfl, hK _ h⟩

set_option maxRecDepth 1000000 in
set_option maxHeartbeats 2000000 in
theorem newCipher_any (k : List UInt8) (w : World) (hk : k.length = 16) :
    Calls Try.prog 39 #[.agg (k.map bv).toArray] w fun e w' => ∃ g, e = .returned (.pointer (some ⟨g, 0, none⟩)) ∧ w.heap.size ≤ g ∧ CipAt w' g (keysU k) ∧ Below w.heap.size w w' := by
  have Hi := Lib.hid (size16 hk)
  have Hk := Lib.hid hk
  have hbd := build_cip boxT boxT_len
  go_enter Try.func39, Try.ntmps39
  go_wp2_with fail
  refine (boxes_any _).mono ?_
  rintro e w2 ⟨rfl, hb2⟩
  have g0 := (ArrB.mk_ w 23 _ k rfl rfl).below hb2 (by simp)
  have hB2 := ((Below.refl w.heap.size w).alloc (Nat.le_refl _) (.cells (k.map bv).toArray 23)).trans (hb2.mono (by simp))
  have hsz : w.heap.size + 1 ≤ w2.heap.size := by simpa using hb2.size
  have hC := ArrB.mk_ w2 89 _ (boxT ++ List.replicate 176 0) rfl rfl
  clear hb2
  have hne : ¬ ((boxT ++ List.replicate 176 0).map bv).toArray = #[] := fun h => by have := congrArg Array.size h; simp at this
  generalize hT : (boxT.map bv).toArray = tb at *
  generalize hK : ((boxT ++ List.replicate 176 0).map bv).toArray = cb at *
  have HT := Lib.hid hT
  have HK := Lib.hid hK
  clear hT hK
  go_wp2_with ((with_reducible show wpList _ _ _ (⟨some 7, _, _, _, _, _⟩ :: _) _ _); refine wpList_buildR rfl 89 #[(0, .tmp 6)] rfl #[(0, .agg tb)] (by simp [Act.eval]) cb (hbd _) ?_)
  have hCa : CipAt (w2.alloc (.cells cb 89)) w2.heap.size (kZ k 0) := hC
  refine wp_gen (fun wx => ArrB wx w.heap.size 23 k ∧ CipAt wx w2.heap.size (kZ k 0) ∧ Below w.heap.size w wx) ⟨g0.alloc _, hCa, hB2.alloc (by omega) _⟩ ?_
  clear g0 hCa hB2 hC hbd hne
  rintro w3 ⟨g0, hC, hB⟩
  have hl0 := load16 g0.range Hk.out
  refine wp_region_still_tail 5 (by kernel_rfl) (by kernel_rfl) ?_
  simp only [List.take_succ_cons, List.take_zero, List.drop_succ_cons, List.drop_zero]
  have hr0 : w3.drew.rangeAt w.heap.size 0 (k.map bv) := g0.range
  have Hs := Lib.hid (size16L Hk.out)
  have Ht := Lib.hid (show w3.drew.there w2.heap.size 256 (k.map bv).toArray.size by simp [Hk.out]; exact CipAt.there hC (kZ_len Hk.out (by omega)) (by omega))
  repeat (first
    | ((with_reducible show wpStill _ _ _ _ (⟨some 10, _, _, _, _, _⟩ :: _) _); refine wpStill_load rfl 23 (.tmp 1) rfl w.heap.size 0 rfl (k.map bv) _ hr0 Try.underlying23 rfl Hs.out ?_)
    | still_step)
  refine wpStill_nil ?_
  change wpList _ _ _ _ _ w3.drew
  clear hl0
  go_wp2_with ((with_reducible show wpList _ _ _ (⟨none, Op.store 23 _ _, _, _, _, _⟩ :: _) _ _); refine wpList_store_mid rfl 23 (.tmp 13) (.tmp 10) rfl w2.heap.size 256 (k.map bv).toArray rfl rfl Ht.out Hi.out (one_bvA k) ?_)
  have hC1 := CipAt.put Hk.out (show CipAt w3.drew w2.heap.size (kZ k 0) from hC) (by omega)
  have hB1 := below_setCells (show w.heap.size ≤ w2.heap.size by omega) (k.map bv) 256 w3.drew (hB.trans ⟨rfl, rfl, rfl, Nat.le_refl _, fun _ _ => rfl⟩)
  generalize hg : w2.heap.size = g at *
  have hgw : w.heap.size ≤ g := by omega
  clear hg
  refine wp_gen (fun wx => CipAt wx g (kZ k 1) ∧ Below w.heap.size w wx) ⟨hC1, hB1⟩ ?_
  clear hr0 Ht hC1 hB1 hC hB g0
  rintro w4 ⟨hC, hB⟩
  go_loopw [4, 14] (fun m i wr => ∃ n : Nat, n ≤ 10 ∧ i = .int .i64 (n : Int) ∧ m = .int .u8 ((markU n).toNat : Int) ∧ CipAt wr g (kZ k (n + 1)) ∧ Below w.heap.size w wr) (fun _ i _ => (10 - intOf i).toNat)
  case atStart => exact ⟨0, by omega, rfl, rfl, hC, hB⟩
  case round =>
    obtain ⟨n, hn, rfl, rfl, hC, hB⟩ := hrel
    by_cases hlt : n < 10
    · have hr : wr.drew.rangeAt g (256 + 16 * n) ((keyU k n).map bv) := CipAt.key Hk.out hC (by omega)
      have Hs := Lib.hid (size16L (keyU_len Hk.out n))
      have Hmk := Lib.hid (show markU (n + 1) = twU (markU n) from rfl)
      generalize hmk : markU n = mk at *
      have Hmk0 := Lib.hid hmk
      clear hmk
      have v1 : IntKind.i64.wrap ((n : Int) + 1) = (n : Int) + 1 := IntWalk.i64_in _ (by omega)
      have j0 : 0 ≤ (n : Int) := by omega
      have j1 : (n : Int) < 11 := by omega
      have j2 : (n : Int) < 10 := by omega
      have j3 : 0 ≤ (n : Int) + 1 := by omega
      have j4 : (n : Int) + 1 < 11 := by omega
      go_wp2_with fail
      have Hnl := Lib.hid (keyU_len Hk.out (n + 1))
      have hkeep : ∀ wx : World, Below wr.heap.size wr wx → wx.rangeAt g (256 + n * 16) ((keyU k n).map bv) ∧ wx.there g (256 + (n + 1) * 16) 16 := fun wx hb =>
        ⟨by rw [Nat.mul_comm]; exact CipAt.key Hk.out (ArrB.below hC hb (ArrB.lt hC)) (by omega), CipAt.there (ArrB.below hC hb (ArrB.lt hC)) (kZ_len Hk.out (by omega)) (by omega)⟩
      have hstore : ∀ wx : World, Below wr.heap.size wr wx → (fun wx : World => wx.rangeAt g (256 + n * 16) ((keyU k n).map bv) ∧ wx.there g (256 + (n + 1) * 16) 16) (wx.setCells g (256 + (n + 1) * 16) ((keyU k (n + 1)).map bv)) := fun wx hb =>
        ⟨World.rangeAt_setCells_apart (hkeep wx hb).1 _ _ _ (.inr (.inl (by simp [keyU_len Hk.out]; omega))), World.there_setCells (hkeep wx hb).2 _ _ _⟩
      have Hnx := Lib.hid (show nextU (keyU k n) mk = keyU k (n + 1) by rw [keyU, Hmk0.out])
      have hcall : ∀ wx : World, Below wr.heap.size wr wx → Calls Try.prog 56 #[.pointer (some ⟨g, 0, none⟩), .agg ((keyU k n).map bv).toArray, .int .u8 (mk.toNat : Int)] wx fun e w' => e = .returned (.agg ((keyU k (n + 1)).map bv).toArray) ∧ Below wx.heap.size wx w' := fun wx hb => by
        rw [← Hnx.out]
        exact nextKey_any g _ _ mk wx (ArrB.below hC hb (ArrB.lt hC)) (keyU_len Hk.out n)
      have hund := Try.underlying23
      have hi1 : (Try.prog.info? 23).map (·.size) = some ((keyU k n).map bv).length := Hs.out
      have hi2 : (Try.prog.info? 23).map (·.size) = some ((keyU k (n + 1)).map bv).length := size16L Hnl.out
      have hl2 : ((keyU k (n + 1)).map bv).length = 16 := by simp [Hnl.out]
      have h12 := one_bv (keyU k (n + 1))
      have hput : ∀ wx : World, Below wr.heap.size wr wx → CipAt (wx.setCells g (256 + (n + 1) * 16) ((keyU k (n + 1)).map bv)) g (kZ k (n + 1 + 1)) := fun wx hb => by
        rw [Nat.mul_comm (n + 1) 16]
        exact CipAt.put Hk.out (ArrB.below hC hb (ArrB.lt hC)) (by omega)
      have Hput := Lib.hid hput
      clear hput
      generalize keyU k n = was at *
      generalize keyU k (n + 1) = nx at *
      go_region_held3 (fun wx => wx.rangeAt g (256 + n * 16) (was.map bv) ∧ wx.there g (256 + (n + 1) * 16) 16)
        (first
          | (refine hkeep _ ?_; (repeat (first | exact c_refl _ | refine c_drew ?_ | refine c_alloc ?_ _ | refine c_call ?_ hbm)); done)
          | (refine hstore _ ?_; (repeat (first | exact c_refl _ | refine c_drew ?_ | refine c_alloc ?_ _ | refine c_call ?_ hbm)); done))
        (first
          | (go_at_call 56; refine (hcall _ (by ((repeat (first | exact c_refl _ | refine c_drew ?_ | refine c_alloc ?_ _)); first | done | fail "open"))).mono ?_; rintro e wm ⟨rfl, hbm⟩))
      have HB : Below wr.heap.size wr wm := by
        repeat (first | exact c_refl _ | refine c_drew ?_ | refine c_alloc ?_ _ | refine c_call ?_ hbm)
      have hC2 := Hput.out wm HB
      have hB2 : Below w.heap.size w (wm.setCells g (256 + (n + 1) * 16) (nx.map bv)) := below_setCells hgw _ _ _ (hB.trans (HB.mono hB.size))
      clear hkeep hstore hcall hbm HB
      go_wp2_with fail
      refine calls_gen (fun wx => CipAt wx g (kZ k (n + 1 + 1)) ∧ Below w.heap.size w wx) ⟨hC2, hB2⟩ ?_
      clear hC2 hB2
      rintro w5 ⟨hC5, hB5⟩
      refine (twice_any mk _).mono ?_
      rintro e w6 ⟨rfl, rfl⟩
      rw [← Hmk.out]
      go_wp2_with fail
      exact ⟨⟨n + 1, by omega, by go_num, rfl, hC5, hB5⟩, by simp [intOf]; omega⟩
    · obtain rfl : n = 10 := by omega
      rw [show ((10 : Nat) : Int) = 10 from rfl]
      rw [show 10 + 1 = 11 from rfl, kZ_all] at hC
      go_wp2_with fail
      go_ret
      exact ⟨g, rfl, hgw, hC, hB⟩

end Go.Proofs.Ytbkdlmneidboaaa
