import Derived.Test.YtbiijdboolpaeaaDoorG04
import Derived.Test.YtbiijdboolpaeaaDoorG07
import Derived.Laws.Tables
set_option linter.unusedVariables false
namespace Go.Proofs.YtbiijdboolpaeaaDoor
open Go.RowKit
theorem infoCip : (Tryd.prog.info? 115).map (fun i => (i.zero, i.size, i.bytes)) = some (some (.agg (cz 432)), 432, 432) := by kernel_rfl
theorem placesCip : ∃ fields, Tryd.prog.underlying 115 = some (.struct fields) ∧ (fields.toList.mapM fun f => (Tryd.prog.info? f.type).map fun i => (f.offset, i.size)) = some [(0, 256), (256, 176)] :=
 ⟨_, Tryd.underlying115, by kernel_rfl⟩
set_option maxRecDepth 100000 in
theorem build_cip (T : List UInt8) (hT : T.length = 256) (w : World) :
  (Instr.build 115 #[(0, .agg (T.map bv).toArray)]).run Tryd.prog w = .ok (.agg ((T ++ List.replicate 176 0).map bv).toArray) w := by
 refine run_build w _ _ _ ?_
 obtain ⟨i0, hi0, hz0, hz1, hz2⟩ := info_parts infoCip
 obtain ⟨fields, hu, hp⟩ := placesCip
 unfold Program.built
 simp only [hi0, hu, hz0, hp]
 rw [show (Value.agg (cz 432)).cells = cz 432 from rfl, fill_first _ _ _ (by simp [hT]) (by simp [cz_size, hT])]
 rw [← cz_list, show (432 : Nat) = 256 + 176 from rfl, ← List.replicate_append_replicate]
 simp only [splice, List.map_append, List.take_zero, List.nil_append, Nat.zero_add, List.length_map, hT]
 rw [List.drop_append_of_le_length (by simp), List.drop_of_length_le (by simp)]
 simp
theorem wpList_buildR {P : Program} {ops : Array Oper} {rest : List Oper} {o : Oper} {a : Act} {w : World} {Q : Exit → Act → World → Prop} (hg : o.guard = none) (t : TypeId) (parts : Array (Nat × Operand)) (ho : o.op = .build t parts)
  (vals : Array (Nat × Value)) (hv : (parts.map fun (i, x) => (i, a.eval x)) = vals) (cells : Array Value) (hf : (Instr.build t vals).run P w = .ok (.agg cells) w)
  (h : wpList P ops Q rest (a.put o.dst (.agg cells)) w) : wpList P ops Q (o :: rest) a w := by
 subst hv
 refine wpList_plain hg fun _ hK => ?_
 unfold Oper.wp execOp
 simp only [ho, Sem.run_bind, hf, Result.andThen_ok, Sem.run_pure]
 exact hK _ _ h
def kTo (k : List UInt8) (n : Nat) : List UInt8 := ((List.range n).map (keyU k)).flatten
theorem kTo_succ (k : List UInt8) (n : Nat) : kTo k (n + 1) = kTo k n ++ keyU k n := by simp [kTo, List.range_succ]
theorem kTo_len {k : List UInt8} (h : k.length = 16) : ∀ n, (kTo k n).length = 16 * n
 | 0 => rfl
 | n + 1 => by rw [kTo_succ, List.length_append, kTo_len h n, keyU_len h]; omega
theorem kTo_at {k : List UInt8} (h : k.length = 16) {i j : Nat} (hj : j < 16) : ∀ n, i < n → (kTo k n)[16 * i + j]? = (keyU k i)[j]?
 | 0, hi => by omega
 | n + 1, hi => by
  rw [kTo_succ]
  by_cases hn : i < n
  ·
   rw [List.getElem?_append_left (by rw [kTo_len h]; omega)]
   exact kTo_at h hj n hn
  ·
   obtain rfl : i = n := by omega
   rw [List.getElem?_append_right (by rw [kTo_len h]; omega), kTo_len h, show 16 * i + j - 16 * i = j by omega]
theorem keysU_kTo (k : List UInt8) : keysU k = kTo k 11 := rfl
def kZ (k : List UInt8) (i : Nat) : List UInt8 := kTo k i ++ List.replicate (176 - 16 * i) 0
theorem kZ_len {k : List UInt8} (h : k.length = 16) {i : Nat} (hi : i ≤ 11) : (kZ k i).length = 176 := by simp [kZ, kTo_len h]; omega
theorem kZ_all (k : List UInt8) : kZ k 11 = keysU k := by simp [kZ, keysU_kTo]
theorem kZ_store {k : List UInt8} (h : k.length = 16) {i : Nat} (hi : i ≤ 10) : splice (boxT ++ kZ k i) (256 + 16 * i) (keyU k i) = boxT ++ kZ k (i + 1) := by
 rw [kZ, ← List.append_assoc, show 256 + 16 * i = (boxT ++ kTo k i).length by rw [List.length_append, boxT_len, kTo_len h], splice_in _ _ _ (by simp [keyU_len h]; omega), keyU_len h, kZ, kTo_succ]
 simp
 omega
theorem CipAt.key {w : World} {g : Nat} {k rest : List UInt8} (hk : k.length = 16) {n i : Nat} (h : CipAt w g (kTo k n ++ rest)) (hi : i < n) : w.rangeAt g (256 + 16 * i) ((keyU k i).map bv) := by
 intro j u hu
 have hj : j < 16 := by have := (List.getElem?_eq_some_iff.1 hu).1; simpa [keyU_len hk] using this
 have e : (keyU k i)[j]? = some (at0 (keyU k i) j) := at0_of (by rw [keyU_len hk]; exact hj)
 rw [List.getElem?_map, e] at hu
 obtain rfl : bv (at0 (keyU k i) j) = u := by simpa using hu
 refine ArrB.cell h ?_
 rw [List.getElem?_append_right (by rw [boxT_len]; omega), boxT_len, List.getElem?_append_left (by rw [kTo_len hk]; omega), show 256 + 16 * i + j - 256 = 16 * i + j by omega, kTo_at hk hj n hi, e]
theorem CipAt.there {w : World} {g : Nat} {K : List UInt8} (h : CipAt w g K) (hl : K.length = 176) {o n : Nat} (hn : o + n ≤ 432) : w.there g o n := fun j hj => by
 have e : (boxT ++ K)[o + j]? = some (at0 (boxT ++ K) (o + j)) := at0_of (by rw [List.length_append, boxT_len, hl]; omega)
 exact ⟨by rw [ArrB.cell h e]; rfl, ArrB.frozen h _⟩
theorem CipAt.put {w : World} {g i : Nat} {k : List UInt8} (hk : k.length = 16) (h : CipAt w g (kZ k i)) (hi : i ≤ 10) : CipAt (w.setCells g (256 + 16 * i) ((keyU k i).map bv)) g (kZ k (i + 1)) := by
 have h1 : w.heap[g]? = some (.cells ((boxT ++ kZ k i).map bv).toArray 115 (0, 0)) := h
 have h2 := setCells_heap g 115 ((keyU k i).map bv) ((boxT ++ kZ k i).map bv) (256 + 16 * i) w h1 (by simp [keyU_len hk, boxT_len, kZ_len hk (show i ≤ 11 by omega)]; omega)
 rw [splice_bytes, kZ_store hk hi] at h2
 exact h2
theorem load16 {w : World} {g o : Nat} {l : List UInt8} (h : w.rangeAt g o (l.map bv)) (hl : l.length = 16) :
  (loadVar 69 ⟨g, o, none⟩).run Tryd.prog w = .ok (.agg (l.map bv).toArray) w :=
 run_loadVar_mid w g o _ _ _ h Tryd.underlying69 rfl (size16L hl)
theorem wpStill_load {P : Program} {ops : Array Oper} {w : World} {Q : Act → Prop} {rest : List Oper} {op : Oper} {a : Act} (hgd : op.guard = none) (ty : TypeId) (x : Operand) (ho : op.op = .load ty x)
  (b o : Nat) (hx : a.eval x = .pointer (some ⟨b, o, none⟩)) (cs : List Value) (d : TypeDesc) (hc : w.rangeAt b o cs)
  (hu : P.underlying ty = some d) (hd : d.isRow = true) (hi : (P.info? ty).map (·.size) = some cs.length)
  (h : wpStill P ops w Q rest (a.put op.dst (.agg cs.toArray))) : wpStill P ops w Q (op :: rest) a := by
 refine wpStill_step fun K hK => ?_
 rw [if_pos (by simp [Region.wanted, hgd])]
 unfold Oper.still execOp
 simp only [ho, hx, Instr.loadAt, Instr.sureAddr, Sem.run_bind, Sem.run_pure, Result.andThen_ok, run_loadVar_mid w b o ty cs d hc hu hd hi]
 exact ⟨rfl, hK _ h⟩
set_option maxRecDepth 1000000 in
set_option maxHeartbeats 2000000 in
theorem newCipher_any (k : List UInt8) (w : World) (hk : k.length = 16) :
  Calls Tryd.prog 59 #[.agg (k.map bv).toArray] w fun e w' => ∃ g, e = .returned (.pointer (some ⟨g, 0, none⟩)) ∧ w.heap.size ≤ g ∧ CipAt w' g (keysU k) ∧ Below w.heap.size w w' := by
 have Hi := Lib.hid (size16 hk)
 have Hk := Lib.hid hk
 have hbd := build_cip boxT boxT_len
 go_enter Tryd.func59, Tryd.ntmps59
 go_wp2_with fail
 refine (boxes_any _).mono ?_
 rintro e w2 ⟨rfl, hb2⟩
 have g0 := (ArrB.mk_ w 69 _ k rfl rfl).below hb2 (by simp)
 have hB2 := ((Below.refl w.heap.size w).alloc (Nat.le_refl _) (.cells (k.map bv).toArray 69)).trans (hb2.mono (by simp))
 have hsz : w.heap.size + 1 ≤ w2.heap.size := by simpa using hb2.size
 have hC := ArrB.mk_ w2 115 _ (boxT ++ List.replicate 176 0) rfl rfl
 clear hb2
 have hne : ¬ ((boxT ++ List.replicate 176 0).map bv).toArray = #[] := fun h => by have := congrArg Array.size h; simp at this
 generalize hT : (boxT.map bv).toArray = tb at *
 generalize hK : ((boxT ++ List.replicate 176 0).map bv).toArray = cb at *
 have HT := Lib.hid hT
 have HK := Lib.hid hK
 clear hT hK
 go_wp2_with ((with_reducible refine tdQ 7 ?_); refine wpList_buildR rfl 115 #[(0, .tmp 6)] rfl #[(0, .agg tb)] (by simp [Act.eval]) cb (hbd _) ?_)
 have hCa : CipAt (w2.alloc (.cells cb 115)) w2.heap.size (kZ k 0) := hC
 refine wp_gen (fun wx => ArrB wx w.heap.size 69 k ∧ CipAt wx w2.heap.size (kZ k 0) ∧ Below w.heap.size w wx) ⟨g0.alloc _, hCa, hB2.alloc (by omega) _⟩ ?_
 clear g0 hCa hB2 hC hbd hne
 rintro w3 ⟨g0, hC, hB⟩
 have hl0 := load16 g0.range Hk.out
 refine wp_region_still_tail 5 (by kernel_rfl) (by kernel_rfl) ?_
 simp only [List.take_succ_cons, List.take_zero, List.drop_succ_cons, List.drop_zero]
 have hr0 : w3.drew.rangeAt w.heap.size 0 (k.map bv) := g0.range
 have Hs := Lib.hid (size16L Hk.out)
 have Ht := Lib.hid (show w3.drew.there w2.heap.size 256 (k.map bv).toArray.size by simp [Hk.out]; exact CipAt.there hC (kZ_len Hk.out (by omega)) (by omega))
 repeat (first
  | ((with_reducible show wpStill _ _ _ _ (⟨some 10, _, _, _, _, _⟩ :: _) _); refine wpStill_load rfl 69 (.tmp 1) rfl w.heap.size 0 rfl (k.map bv) _ hr0 Tryd.underlying69 rfl Hs.out ?_)
  | still_step)
 refine wpStill_nil ?_
 change wpList _ _ _ _ _ w3.drew
 clear hl0
 go_wp2_with ((with_reducible refine tsQ 69 ?_); refine wpList_store_mid rfl 69 (.tmp 13) (.tmp 10) rfl w2.heap.size 256 (k.map bv).toArray rfl rfl Ht.out Hi.out (one_bvA k) ?_)
 have hC1 := CipAt.put Hk.out (show CipAt w3.drew w2.heap.size (kZ k 0) from hC) (by omega)
 have hB1 := below_setCells (show w.heap.size ≤ w2.heap.size by omega) (k.map bv) 256 w3.drew (hB.trans ⟨rfl, rfl, rfl, Nat.le_refl _, fun _ _ => rfl⟩)
 generalize hg : w2.heap.size = g at *
 have hgw : w.heap.size ≤ g := by omega
 clear hg
 refine wp_gen (fun wx => CipAt wx g (kZ k 1) ∧ Below w.heap.size w wx) ⟨hC1, hB1⟩ ?_
 clear hr0 Ht hC1 hB1 hC hB g0
 rintro w4 ⟨hC, hB⟩
 go_loopw [4, 14] (fun m i wr => ∃ n : Nat, n ≤ 10 ∧ i = .int .i64 (n : Int) ∧ m = .int .u8 ((markU n).toNat : Int) ∧ CipAt wr g (kZ k (n + 1)) ∧ Below w.heap.size w wr) (fun _ i _ => (10 - intOf i).toNat)
 case atStart => exact ⟨0, by omega, rfl, rfl, hC, hB⟩
 case round =>
  obtain ⟨n, hn, rfl, rfl, hC, hB⟩ := hrel
  by_cases hlt : n < 10
  ·
   have hr : wr.drew.rangeAt g (256 + 16 * n) ((keyU k n).map bv) := CipAt.key Hk.out hC (by omega)
   have Hs := Lib.hid (size16L (keyU_len Hk.out n))
   have Hmk := Lib.hid (show markU (n + 1) = twU (markU n) from rfl)
   generalize hmk : markU n = mk at *
   have Hmk0 := Lib.hid hmk
   clear hmk
   have v1 : IntKind.i64.wrap ((n : Int) + 1) = (n : Int) + 1 := IntWalk.i64_in _ (by omega)
   have j0 : 0 ≤ (n : Int) := by omega
   have j1 : (n : Int) < 11 := by omega
   have j2 : (n : Int) < 10 := by omega
   have j3 : 0 ≤ (n : Int) + 1 := by omega
   have j4 : (n : Int) + 1 < 11 := by omega
   go_wp2_with fail
   have Hnl := Lib.hid (keyU_len Hk.out (n + 1))
   have hkeep : ∀ wx : World, Below wr.heap.size wr wx → wx.rangeAt g (256 + n * 16) ((keyU k n).map bv) ∧ wx.there g (256 + (n + 1) * 16) 16 := fun wx hb =>
    ⟨by rw [Nat.mul_comm]; exact CipAt.key Hk.out (ArrB.below hC hb (ArrB.lt hC)) (by omega), CipAt.there (ArrB.below hC hb (ArrB.lt hC)) (kZ_len Hk.out (by omega)) (by omega)⟩
   have hstore : ∀ wx : World, Below wr.heap.size wr wx → (fun wx : World => wx.rangeAt g (256 + n * 16) ((keyU k n).map bv) ∧ wx.there g (256 + (n + 1) * 16) 16) (wx.setCells g (256 + (n + 1) * 16) ((keyU k (n + 1)).map bv)) := fun wx hb =>
    ⟨World.rangeAt_setCells_apart (hkeep wx hb).1 _ _ _ (.inr (.inl (by simp [keyU_len Hk.out]; omega))), World.there_setCells (hkeep wx hb).2 _ _ _⟩
   have Hnx := Lib.hid (show nextU (keyU k n) mk = keyU k (n + 1) by rw [keyU, Hmk0.out])
   have hcall : ∀ wx : World, Below wr.heap.size wr wx → Calls Tryd.prog 75 #[.pointer (some ⟨g, 0, none⟩), .agg ((keyU k n).map bv).toArray, .int .u8 (mk.toNat : Int)] wx fun e w' => e = .returned (.agg ((keyU k (n + 1)).map bv).toArray) ∧ Below wx.heap.size wx w' := fun wx hb => by
    rw [← Hnx.out]
    exact nextKey_any g _ _ mk wx (ArrB.below hC hb (ArrB.lt hC)) (keyU_len Hk.out n)
   have hund := Tryd.underlying69
   have hi1 : (Tryd.prog.info? 69).map (·.size) = some ((keyU k n).map bv).length := Hs.out
   have hi2 : (Tryd.prog.info? 69).map (·.size) = some ((keyU k (n + 1)).map bv).length := size16L Hnl.out
   have hl2 : ((keyU k (n + 1)).map bv).length = 16 := by simp [Hnl.out]
   have h12 := one_bv (keyU k (n + 1))
   have hput : ∀ wx : World, Below wr.heap.size wr wx → CipAt (wx.setCells g (256 + (n + 1) * 16) ((keyU k (n + 1)).map bv)) g (kZ k (n + 1 + 1)) := fun wx hb => by
    rw [Nat.mul_comm (n + 1) 16]
    exact CipAt.put Hk.out (ArrB.below hC hb (ArrB.lt hC)) (by omega)
   have Hput := Lib.hid hput
   clear hput
   generalize keyU k n = was at *
   generalize keyU k (n + 1) = nx at *
   go_region_held3 (fun wx => wx.rangeAt g (256 + n * 16) (was.map bv) ∧ wx.there g (256 + (n + 1) * 16) 16)
    (first
     | (refine hkeep _ ?_; (repeat (first | exact c_refl _ | refine c_drew ?_ | refine c_alloc ?_ _ | refine c_call ?_ hbm)); done)
     | (refine hstore _ ?_; (repeat (first | exact c_refl _ | refine c_drew ?_ | refine c_alloc ?_ _ | refine c_call ?_ hbm)); done))
    (first
     | (go_at_call 75; refine (hcall _ (by ((repeat (first | exact c_refl _ | refine c_drew ?_ | refine c_alloc ?_ _)); first | done | fail "open"))).mono ?_; rintro e wm ⟨rfl, hbm⟩))
   have HB : Below wr.heap.size wr wm := by
    repeat (first | exact c_refl _ | refine c_drew ?_ | refine c_alloc ?_ _ | refine c_call ?_ hbm)
   have hC2 := Hput.out wm HB
   have hB2 : Below w.heap.size w (wm.setCells g (256 + (n + 1) * 16) (nx.map bv)) := below_setCells hgw _ _ _ (hB.trans (HB.mono hB.size))
   clear hkeep hstore hcall hbm HB
   go_wp2_with fail
   refine calls_gen (fun wx => CipAt wx g (kZ k (n + 1 + 1)) ∧ Below w.heap.size w wx) ⟨hC2, hB2⟩ ?_
   clear hC2 hB2
   rintro w5 ⟨hC5, hB5⟩
   refine (twice_any mk _).mono ?_
   rintro e w6 ⟨rfl, rfl⟩
   rw [← Hmk.out]
   go_wp2_with fail
   exact ⟨⟨n + 1, by omega, by go_num, rfl, hC5, hB5⟩, by simp [intOf]; omega⟩
  ·
   obtain rfl : n = 10 := by omega
   rw [show ((10 : Nat) : Int) = 10 from rfl]
   rw [show 10 + 1 = 11 from rfl, kZ_all] at hC
   go_wp2_with fail
   go_ret
   exact ⟨g, rfl, hgw, hC, hB⟩
theorem step_copy_row {P : Program} {ops : Array Oper} {o : Oper} {a : Act} {w : World} {K : Act → World → Prop} {Q : Exit → Act → World → Prop} {E : Prop} (hgd : o.guard = none) (d s : Operand) (dT sT : TypeId)
  (ho : o.op = .call { callee := .builtin .copy, args := #[d, s], argTypes := #[dT, sT] }) (elem : TypeId) (hu : P.underlying dT = some (.slice elem)) (hsz : (P.info? elem).map (·.size) = some 1)
  (g off : Nat) (ad : Addr) (dLen dCap sLen sCap : Nat) (hd : a.eval d = .slice (some ⟨g, off, none⟩) dLen dCap) (hs : a.eval s = .slice (some ad) sLen sCap)
  (cur : List Value) (t : TypeId) (hg : w.heap[g]? = some (.cells cur.toArray t (0, 0))) (cs : List Value) (m : Nat) (hm : cs.length = m) (hn : m = Nat.min sLen dLen)
  (hsrc : ∀ j v, cs[j]? = some v → w.cell? (ad.add j) = some v)
  (hfit : off + cs.length ≤ cur.length) (h1 : ∀ v ∈ cs, v.oneCell' = true)
  (h : K (a.put o.dst (.int .i64 (m : Int))) (w.setRow g (splice cur off cs).toArray)) :
  if Region.wanted o (yielded ops a.tmps) = true then Oper.wp P o a w K Q else E := by
 subst hm
 have hw : Region.wanted o (yielded ops a.tmps) = true := by simp [Region.wanted, hgd]
 rw [if_pos hw]
 have hrun := run_copy_row (P := P) w dT sT o.type elem g off dLen dCap ad sLen sCap cur.toArray t cs hu hsz hg hn hsrc (by simpa using hfit) h1
 have e : (cur.toArray.toList.take off ++ cs ++ cur.toArray.toList.drop (off + cs.length)).toArray = (splice cur off cs).toArray := by simp [splice]
 rw [e] at hrun
 unfold Oper.wp execOp
 simp only [ho, resolve, invoke, builtin, Sem.run_bind, Sem.run_pure, Result.andThen_ok, List.map_toArray, List.map_cons, List.map_nil, hd, hs, hrun]
 exact h
def cinU (n : List UInt8) (c : Nat) : List UInt8 := n ++ be 4 c
theorem cinU_len {n : List UInt8} (h : n.length = 12) (c : Nat) : (cinU n c).length = 16 := by simp [cinU, h, be_length]
def xorAt (ys : List UInt8) (p : Nat) (s : List UInt8) : List UInt8 := (List.range ys.length).map fun i => if p ≤ i ∧ i < p + 16 then at0 ys i ^^^ at0 s (i - p) else at0 ys i
theorem xorAt_len (ys : List UInt8) (p : Nat) (s : List UInt8) : (xorAt ys p s).length = ys.length := by simp [xorAt]
def ctrTo (k n : List UInt8) (from_ : Nat) (b : List UInt8) : Nat → List UInt8
 | 0 => b
 | j + 1 => xorAt (ctrTo k n from_ b j) (16 * j) (encU k (cinU n (from_ + j)))
theorem ctrTo_len (k n : List UInt8) (f : Nat) (b : List UInt8) : ∀ j, (ctrTo k n f b j).length = b.length
 | 0 => rfl
 | j + 1 => by rw [ctrTo, xorAt_len, ctrTo_len]
theorem info12 : (Tryd.prog.info? 71).map (·.size) = some 12 := by kernel_rfl
theorem be4_list (c : Nat) : be 4 c = [UInt8.ofNat (c / 256 ^ 3), UInt8.ofNat (c / 256 ^ 2), UInt8.ofNat (c / 256 ^ 1), UInt8.ofNat c] := by
 simp [be, Nat.div_div_eq_div_mul]
set_option maxRecDepth 100000 in
set_option maxHeartbeats 800000 in
theorem counted_any (n : List UInt8) (c : Nat) (w : World) (hn : n.length = 12) (hc : c < 4294967296) :
  Calls Tryd.prog 62 #[.agg (n.map bv).toArray, .int .u32 (c : Int)] w fun e w' => e = .returned (.agg ((cinU n c).map bv).toArray) ∧ Below w.heap.size w w' := by
 have Hn := Lib.hid hn
 have c0 : (0 : Int) ≤ (c : Int) := by omega
 have c1 : (c : Int) < 4294967296 := by omega
 go_enter Tryd.func62, Tryd.ntmps62
 go_wp2_with fail
 have e3 : (c : Int) / 16777216 = ((UInt8.ofNat (c / 256 ^ 3)).toNat : Int) := by rw [UInt8.toNat_ofNat']; omega
 have e2 : (c : Int) / 65536 % 256 = ((UInt8.ofNat (c / 256 ^ 2)).toNat : Int) := by rw [UInt8.toNat_ofNat']; omega
 have e1 : (c : Int) / 256 % 256 = ((UInt8.ofNat (c / 256 ^ 1)).toNat : Int) := by rw [UInt8.toNat_ofNat']; omega
 have e0 : (c : Int) % 256 = ((UInt8.ofNat c).toNat : Int) := by rw [UInt8.toNat_ofNat']; omega
 rw [e3, e2, e1, e0]
 refine wp_gen (fun wx => ArrB wx w.heap.size 71 n ∧ ArrB wx (w.heap.size + 1) 69 zero16 ∧ ArrB wx (w.heap.size + 1 + 1) 69 zero16 ∧ ArrB wx (w.heap.size + 1 + 1 + 1) 121 (be 4 c) ∧ Below w.heap.size w wx)
  ⟨(((ArrB.mk_ w _ _ n rfl rfl).alloc _).alloc _).alloc _, ((ArrB.mk_ _ _ _ zero16 (by simp) rfl).alloc _).alloc _, (ArrB.mk_ _ _ _ zero16 (by simp) rfl).alloc _, ArrB.mk_ _ _ _ _ (by simp) (by rw [be4_list]; rfl), ((((Below.refl _ _).alloc (Nat.le_refl _) _).alloc (al0 _ _) _).alloc (by simp; omega) _).alloc (by simp; omega) _⟩ ?_
 rintro w1 ⟨g0, g1, g2, g3, hB⟩
 clear e0 e1 e2 e3
 generalize hB0 : w.heap.size = B0 at *
 go_region_held3 (fun _ => True) (trivial)
  (first
   | (refine step_copy_row rfl (.tmp 19) (.tmp 20) 24 24 rfl 5 Tryd.underlying24 byteSize (B0 + 1 + 1) 0 ⟨B0, 0, none⟩ 16 16 12 12 rfl rfl (zero16.map bv) 69 g2.drew.at_ (n.map bv) 12 (by simp [Hn.out]) rfl (fun j v hv => by rw [Addr.add_lit]; exact g0.drew.range j v hv) (by simp [Hn.out, zero16]) (one_bv n) ?_; rw [splice_bytes])
   | (refine step_copy_row rfl (.tmp 22) (.tmp 23) 24 24 rfl 5 Tryd.underlying24 byteSize (B0 + 1 + 1) 12 ⟨B0 + 1 + 1 + 1, 0, none⟩ 4 4 4 4 rfl rfl ((splice zero16 0 n).map bv) 69 (g2.drew.row _).at_ ((be 4 c).map bv) 4 (by simp [be_length]) rfl (fun j v hv => by rw [Addr.add_lit]; exact (g3.drew.rowFar (by omega) _).range j v hv) (by simp [Hn.out, zero16, splice, be_length]) (one_bv _) ?_; rw [splice_bytes]))
 have es : splice (splice zero16 0 n) 12 (be 4 c) = cinU n c := by
  have hz : zero16 = List.replicate 12 0 ++ List.replicate 4 0 := rfl
  have h1 : splice zero16 0 n = n ++ List.replicate 4 0 := by
   rw [hz]
   have := splice_in (α := UInt8) [] (List.replicate 12 0 ++ List.replicate 4 0) n (by simp [Hn.out])
   simp only [List.nil_append, List.length_nil] at this
   rw [this, Hn.out, List.drop_left' (by simp)]
  rw [h1]
  have := splice_in n (List.replicate 4 0) (be 4 c) (by simp [be_length])
  rw [Hn.out] at this
  rw [this]
  simp [be_length, cinU]
 rw [es]
 have Hib := Lib.hid (size16 (cinU_len Hn.out c))
 have Hsz := Lib.hid (same16 (cinU_len Hn.out c) zero16_len)
 have k2 := (g2.drew.row (splice zero16 0 n)).row (cinU n c)
 have k1 := (g1.drew.rowFar (show B0 + 1 ≠ B0 + 1 + 1 by omega) ((splice zero16 0 n).map bv).toArray).rowFar (show B0 + 1 ≠ B0 + 1 + 1 by omega) ((cinU n c).map bv).toArray
 have hB2 := below_setRow (below_setRow hB.drew (show B0 ≤ B0 + 1 + 1 by omega) ((splice zero16 0 n).map bv).toArray) (show B0 ≤ B0 + 1 + 1 by omega) ((cinU n c).map bv).toArray
 generalize (w1.drew.setRow (B0 + 1 + 1) ((splice zero16 0 n).map bv).toArray).setRow (B0 + 1 + 1) ((cinU n c).map bv).toArray = w2 at *
 clear g0 g1 g2 g3 hB es
 generalize hq : cinU n c = q at *
 have Hq := Lib.hid hq
 clear hq
 go_wp2_with (first
  | ((with_reducible refine tdQ 25 ?_); refine wpList_load_row rfl 69 (.tmp 5) rfl (B0 + 1 + 1) rfl 69 (q.map bv).toArray (0, 0) _ k2 Tryd.underlying69 rfl Hib.out ?_)
  | ((with_reducible refine tsQ 69 ?_); refine wpList_store_row rfl 69 (.tmp 4) (.tmp 25) rfl (B0 + 1) (q.map bv).toArray rfl rfl 69 _ k1 Hib.out Hsz.out (one_bvA q) ?_))
 exact bodyPost_ret (results_cell_row rfl _ _ (B0 + 1) 69 _ (0, 0) _ rfl (k1.row q) Tryd.underlying69 rfl Hib.out) rfl ⟨by rw [Hq.out], by rw [hB0]; exact below_setRow hB2 (Nat.le_succ B0) _⟩
end Go.Proofs.YtbiijdboolpaeaaDoor
