import Derived.Test.YtbiijdboolpaeaaGreatDoorH32
import Derived.Test.YtbiijdboolpaeaaGreatDoorH34
import Derived.Test.YtbiijdboolpaeaaGreatDoorH12
import Derived.Test.YtbiijdboolpaeaaGreatDoorH03
import Derived.StillTailTactics
import Derived.Test.YtbiijdboolpaeaaGreatDoorH29
import Derived.Test.YtbiijdboolpaeaaGreatDoorH30
import Derived.Lib.SmallJoins
set_option linter.unusedVariables false
namespace Go.Proofs.YtbiijdboolpaeaaGreatDoor
open Go.RowKit
structure Cst (w wr : World) (k n b : List UInt8) (A : Option Addr) (m : Nat) : Prop where
 key : ArrB wr w.heap.size 83 k
 non : ArrB wr (w.heap.size + 1) 85 n
 txt : Rd wr w.heap.size A m (b.map bv)
 bel : Below w.heap.size w wr
section
variable {w wr w' : World} {k n b : List UInt8} {A : Option Addr} {m : Nat}
theorem Cst.size (h : Cst w wr k n b A m) : w.heap.size + 2 ≤ wr.heap.size := h.non.lt
theorem Cst.call (h : Cst w wr k n b A m) (hb : Below wr.heap.size wr w') : Cst w w' k n b A m :=
 ⟨h.key.below hb h.key.lt, h.non.below hb h.non.lt, h.txt.below (hb.mono h.bel.size), h.bel.trans (hb.mono h.bel.size)⟩
theorem Cst.alloc (h : Cst w wr k n b A m) (o : Obj) : Cst w (wr.alloc o) k n b A m := h.call (c_alloc (c_refl _) o)
theorem Cst.drew (h : Cst w wr k n b A m) : Cst w wr.drew k n b A m := h.call (c_drew (c_refl _))
theorem Cst.setCell (h : Cst w wr k n b A m) {p : Addr} (hp : w.heap.size + 2 ≤ p.block) (u : Value) : Cst w (wr.setCell p u) k n b A m :=
 ⟨h.key.far (by omega) u, h.non.far (by omega) u, h.txt.setCell (by omega) u, h.bel.setCell (by omega) u⟩
theorem Cst.row (h : Cst w wr k n b A m) {g : Nat} (hg : w.heap.size + 2 ≤ g) (cs : Array Value) : Cst w (wr.setRow g cs) k n b A m :=
 ⟨h.key.rowFar (by omega) cs, h.non.rowFar (by omega) cs, h.txt.below (below_setRow (Below.refl _ _) (by omega) cs), below_setRow h.bel (by omega) cs⟩
theorem Cst.grown (h : Cst w wr k n b A m) {row : Option Nat} (hg : wr.grownBy w' row) (hr : ∀ g, row = some g → w.heap.size + 2 ≤ g) : Cst w w' k n b A m :=
 ⟨h.key.of (hg.block _ h.key.lt (fun e => by have := hr _ e.symm; omega)), h.non.of (hg.block _ h.non.lt (fun e => by have := hr _ e.symm; omega)),
  h.txt.grown hg h.bel.size (fun g e => by have := hr _ e; omega), h.bel.grown hg h.bel.size (fun g e => by have := hr _ e; omega)⟩
end
theorem own_set_far {w : World} {base : Nat} {e : TypeId} {size : Nat} {v : Value} {n : Nat} {xs : List Value} {p : Addr} (h : w.ownsRow base e size v n xs) (hp : ∀ g, v.ownBlock = some g → g ≠ p.block) (u : Value) : (w.setCell p u).ownsRow base e size v n xs :=
 own_far h (by simp [World.setCell]) (fun g hg => Below.heap_setCell w p u g (hp g hg))
theorem own_row_far {w : World} {base : Nat} {e : TypeId} {size : Nat} {v : Value} {n : Nat} {xs : List Value} {g' : Nat} (h : w.ownsRow base e size v n xs) (hp : ∀ g, v.ownBlock = some g → g ≠ g') (cs : Array Value) : (w.setRow g' cs).ownsRow base e size v n xs :=
 own_far h (by simp [World.setRow]) (fun g hg => setRow_other w g' g cs (hp g hg))
theorem Bytes_4g (x : Nat) (w : World) (hx : x < 18446744073709551616) :
  Calls Tryz.prog 60 #[.int .i64 4, .int .u64 (x : Int)] w fun e w' =>
   ∃ g c, e = .returned (.slice (some ⟨g, 0, none⟩) 4 c) ∧ w.heap.size ≤ g ∧ 4 ≤ c ∧ (∀ i y, (be 4 x)[i]? = some y → w'.cell? ⟨g, i, none⟩ = some (.int .u8 (y.toNat : Int))) ∧ Below w.heap.size w w' := by
 refine (Bytes_any 4 x w (by omega) hx).mono ?_
 rintro e w' ⟨A, c, rfl, ho, hb⟩
 obtain ⟨g, cap, hv, hg, _⟩ := ho.form (by decide)
 obtain ⟨_, _, hf, hc, _⟩ := own_form ho
 injection hf with _ _ hf3
 injection hv with hv1 _ _
 subst hv1
 refine ⟨g, c, rfl, hg, by omega, fun i y h => ?_, hb⟩
 have := ho.cells (g := g) rfl i (bv y) (by rw [List.getElem?_map, h]; rfl)
 rwa [Addr.add_lit, Nat.zero_add] at this
theorem step_append_at {P : Program} {w : World} {ops : Array Oper} {o : Oper} {a : Act} {K : Act → World → Prop} {Q : Exit → Act → World → Prop} {E : Prop} (hgd : Region.wanted o (yielded ops a.tmps) = true) (dst : Option Tmp) (hd : o.dst = dst) (s x : Operand) (t : TypeId)
  (ho : o.op = .call { callee := .builtin .append, args := #[s, x], argTypes := #[t, t] })
  (base : Nat) (e : TypeId) (i : TypeInfo) (z : Value) (bytes : Nat) (ht : P.underlying t = some (.slice e)) (hi : P.info? e = some i) (hz : i.zero = some z)
  (hsize : i.size = 1) (hby : i.bytes = bytes) (hzs : z.cells.size = 1)
  (v : Value) (n : Nat) (xs : List Value) (hs : a.eval s = v) (hown : w.ownsRow base e 1 v n xs)
  (B : Nat) (A : Option Addr) (m c : Nat) (news : List Value) (hx : a.eval x = .slice A m c) (hr : Rd w B A m news) (h1 : ∀ u ∈ news, u.oneCell' = true)
  (h63 : n + m ≤ maxLen) (hbytes : (n + m) * bytes ≤ 140737488355328) (hbase : base ≤ w.heap.size)
  (h : ∀ v' w', w'.ownsRow base e 1 v' (n + m) (xs ++ news) → w.grownBy w' v.ownBlock → (v'.ownBlock = v.ownBlock ∨ v'.ownBlock = some w.heap.size) → K (a.put dst v') w') : if Region.wanted o (yielded ops a.tmps) = true then Oper.wp P o a w K Q else E := by
 subst hd
 rw [if_pos hgd]
 obtain ⟨v', w', hrun, h2, h3, h4⟩ := run_append_rd (P := P) w base t o.type e i z bytes ht hi hz hsize hby hzs v n xs hown B A m c news hr h1 h63 hbytes hbase
 unfold Oper.wp execOp
 simp only [ho, resolve, invoke, builtin, Sem.run_bind, Sem.run_pure, Result.andThen_ok, List.map_toArray, List.map_cons, List.map_nil, hs, hx, hrun]
 exact h v' w' h2 h3 h4
theorem size12n {l : List UInt8} (h : l.length = 12) : (Tryz.prog.info? 85).map (·.size) = some (l.map bv).toArray.size := by rw [info12]; simp [h]
theorem upto_cin {c : List UInt8} (h : c.length = 16) : upto (at0 c) (fun _ => 0) 16 16 = c := by
 refine at0_ext (by rw [upto_len, h]) (fun i hi => ?_)
 rw [upto_len] at hi
 exact at0_some (upto_done _ _ hi hi)
theorem cin_low {n : List UInt8} {c x : Nat} (hx : x < n.length) : at0 (cinU n c) x = at0 n x := by
 refine at0_some ?_
 rw [cinU, List.getElem?_append_left hx]
 exact at0_of hx
theorem cin_high {n : List UInt8} (h : n.length = 12) {c x : Nat} (hx : x < 4) : (be 4 c)[x]? = some (at0 (cinU n c) (12 + x)) := by
 have h1 := at0_of (l := cinU n c) (i := 12 + x) (by rw [cinU_len h]; omega)
 rw [← h1, cinU, List.getElem?_append_right (by omega), h]
 congr 1
 omega
theorem take_more {U : List UInt8} {q : Nat} (hq : q < U.length) : (U.take (q + 1)).map bv = (U.take q).map bv ++ [.int .u8 ((at0 U q).toNat : Int)] := by
 rw [List.take_add_one, at0_of hq, List.map_append]
 rfl
set_option maxRecDepth 100000 in
set_option maxHeartbeats 8000000 in
theorem RCtr_ok (k n b : List UInt8) (f m c : Nat) (A : Option Addr) (w : World) (hk : k.length = 16) (hn : n.length = 12) (hf : f < 4294967296) (hr : Rd w w.heap.size A m (b.map bv)) (hm : m ≤ 1048576) (hfit : f + nbs m ≤ 4294967296) :
  Calls Tryz.prog 65 #[.agg (k.map bv).toArray, .agg (n.map bv).toArray, .int .u32 (f : Int), .slice A m c] w fun e w' =>
   ∃ A' c', e = .returned (.tuple #[.slice A' m c', .int .i64 0]) ∧ w'.ownsRow w.heap.size 5 1 (.slice A' m c') m ((ctrU k n f b).map bv) ∧ Below w.heap.size w w' := by
 have Hk := Lib.hid hk
 have Hn := Lib.hid hn
 have hbl : b.length = m := by have := hr.len; simpa using this
 obtain ⟨U, hU⟩ : ∃ U, U = ctrU k n f b := ⟨_, rfl⟩
 have HUl := Lib.hid (show U.length = m by rw [hU, ctrU_len, hbl])
 have HUat := Lib.hid (show ∀ i, i < m → at0 U i = at0 b i ^^^ at0 (encU k (cinU n (f + i / 16))) (i % 16) from fun i hi => by rw [hU]; exact ctrU_at k n f (by omega))
 have Hb := Lib.hid hbl
 rw [← hU]
 clear hU hbl
 have hC0 : Cst w ((w.alloc (.cells (k.map bv).toArray 83)).alloc (.cells (n.map bv).toArray 85)) k n b A m :=
  ⟨(ArrB.mk_ w 83 _ k rfl rfl).alloc _, ArrB.mk_ _ 85 _ n (by simp) rfl, (hr.alloc (Nat.le_refl _) _).alloc (al0 _ _) _, ((Below.refl w.heap.size w).alloc (Nat.le_refl _) _).alloc (al0 _ _) _⟩
 have f0 : (0 : Int) ≤ (f : Int) := by omega
 have m0 : (0 : Int) ≤ (m : Int) := by omega
 have m1 : (m : Int) ≤ 1048576 := by omega
 have q1 : ((m : Int) + 15) / 16 = ((nbs m : Nat) : Int) := by unfold nbs; omega
 have q2 : ((m : Int) + 15).tdiv 16 = ((nbs m : Nat) : Int) := by rw [Int.tdiv_eq_ediv_of_nonneg (by omega)]; unfold nbs; omega
 have q3 : (f : Int) + ((nbs m : Nat) : Int) ≤ 4294967296 := by omega
 have hnb : nbs m ≤ 65536 := by unfold nbs; omega
 have hw4 : IntKind.u64.wrap (f : Int) = (f : Int) := by rw [IntKind.wrap_u64]; omega
 have hw5 : IntKind.u64.wrap ((f : Int) + ((nbs m : Nat) : Int)) = (f : Int) + ((nbs m : Nat) : Int) := by rw [IntKind.wrap_u64]; omega
 have hw6 : IntKind.u64.wrap ((m : Int) + 15) = (m : Int) + 15 := by rw [IntKind.wrap_u64]; omega
 have HN := Lib.hid (show ∀ j, j < nbs m → 16 * j < m ∧ f + j < 4294967296 ∧ j < 65536 from fun j hj => by unfold nbs at *; omega)
 have HN2 := Lib.hid (show m ≤ 16 * nbs m by unfold nbs; omega)
 have Hm := Lib.hid hm
 obtain ⟨i0, hi0, hz0, hz1, hz2⟩ := info_parts byteInfo
 have byte_plain : Tryz.prog.plainKey 5 = true := by kernel_rfl
 clear hk hn hf hr hm hfit hnb
 generalize nbs m = N at *
 go_enter Tryz.func65, Tryz.ntmps65
 go_wp2_with fail
 refine wp_gen (fun wx => Cst w wx k n b A m) hC0 ?_
 clear hC0 q1 q2 q3 hw4 hw5 hw6
 rintro w1 hC
 go_loopw [11, 34] (fun v i wr => ∃ j : Nat, j ≤ N ∧ i = .int .u64 (j : Int) ∧ wr.ownsRow (w.heap.size + 2) 5 1 v (U.take (16 * j)).length ((U.take (16 * j)).map bv) ∧ Cst w wr k n b A m) (fun _ i _ => (N - intOf i).toNat)
 case atStart => exact ⟨0, Nat.zero_le _, rfl, World.ownsRow_nil _ _ _ _, hC⟩
 case round =>
  clear hC
  obtain ⟨j, hj, rfl, hown, hC⟩ := hrel
  by_cases hlt : j < N
  ·
   obtain ⟨hp0, hfj, hj6⟩ := HN.out j hlt
   have hwj : IntKind.u64.wrap ((f : Int) + (j : Int)) = ((f + j : Nat) : Int) := by rw [IntKind.wrap_u64]; omega
   have hwf : IntKind.u64.wrap (f : Int) = (f : Int) := by rw [IntKind.wrap_u64]; omega
   have hwi : IntKind.i64.wrap (j : Int) = (j : Int) := by rw [IntKind.wrap_i64]; omega
   have hwp : IntKind.i64.wrap ((j : Int) * 16) = ((16 * j : Nat) : Int) := by rw [IntKind.wrap_i64]; omega
   have Hlt := Lib.hid hlt
   have hl0 : (U.take (16 * j)).length = 16 * j := by rw [List.length_take, HUl.out]; omega
   rw [hl0] at hown
   obtain ⟨A0, c0, rfl, hc0, _⟩ := own_form hown
   have Hnw := Lib.hid (show ∀ g, (Value.slice A0 (16 * j) c0).ownBlock = some g → g < wr.heap.size from fun g hg => (hown.lt g hg).2)
   have Hfj := Lib.hid hfj
   have hjN : (j : Int) < (N : Int) := by omega
   have hj0 : (0 : Int) ≤ (j : Int) := by omega
   obtain ⟨p, hp⟩ : ∃ p, p = 16 * j := ⟨_, rfl⟩
   have Hp := Lib.hid hp
   rw [← hp] at hwp hown hp0 Hnw ⊢
   obtain ⟨ct, hct⟩ : ∃ ct, ct = f + j := ⟨_, rfl⟩
   rw [← hct] at hwj hfj
   have Hct := Lib.hid hct
   have Hp0 := Lib.hid hp0
   clear hp hct hlt hl0 hfj hj6 hp0
   have hI := (ArrB.mk_ wr 83 _ zero16 rfl rfl)
   have hC1 := hC.alloc (.cells (zero16.map bv).toArray 83)
   have hown1 := own_below_ hown (c_alloc (c_refl _) (.cells (zero16.map bv).toArray 83))
   have hC2n := hC1.non
   go_wp2_with ((with_reducible refine tdQ 37 ?_); refine wpList_load_row rfl 85 (.tmp 5) rfl (w.heap.size + 1) rfl 85 (n.map bv).toArray (0, 0) _ hC2n Tryz.underlying85 rfl (size12n Hn.out) ?_)
   have Hsz := Lib.hid hC.size
   refine wp_gen (fun wx => Cst w wx k n b A m ∧ ArrB wx wr.heap.size 83 (upto (at0 (cinU n ct)) (fun _ => 0) 16 0) ∧ wx.ownsRow (w.heap.size + 2) 5 1 (.slice A0 p c0) p ((U.take p).map bv)) ⟨hC1, by rw [upto_zero]; exact hI, hown1⟩ ?_
   clear hC hC1 hown1 hI hC2n hown
   generalize wr.heap.size = gI at *
   rintro w2 ⟨hC, hI, hown⟩
   go_loopw [38] (fun i wr => ∃ x : Nat, x ≤ 12 ∧ i = .int .i64 (x : Int) ∧ Cst w wr k n b A m ∧ ArrB wr gI 83 (upto (at0 (cinU n ct)) (fun _ => 0) 16 x) ∧ wr.ownsRow (w.heap.size + 2) 5 1 (.slice A0 p c0) p ((U.take p).map bv)) (fun i _ => (12 - intOf i).toNat)
   case atStart => exact ⟨0, by omega, rfl, hC, hI, hown⟩
   case round =>
    clear hC hI hown
    obtain ⟨x, hx, rfl, hC, hI, hown⟩ := hrel
    by_cases hlx : x < 12
    ·
     have hxn : x < n.length := by rw [Hn.out]; exact hlx
     have hix : ((n.map bv).toArray)[x]? = some (.int .u8 ((at0 n x).toNat : Int)) := by
      have := at0_of hxn
      simp [this, bv]
     have hca := hI.cell (upto_old (at0 (cinU n ct)) (fun _ => 0) (show x < 16 by omega) (Nat.le_refl x))
     have hfa := hI.frozen x
     have hset := hI.set_ x (at0 (cinU n ct) x)
     rw [← upto_succ, cin_low hxn] at hset
     have hC2 := hC.setCell (p := ⟨gI, x, none⟩) Hsz.out (.int .u8 ((at0 n x).toNat : Int))
     have ho2 := own_set_far (p := ⟨gI, x, none⟩) hown (fun g hg => by have := Hnw.out g hg; show g ≠ gI; omega) (.int .u8 ((at0 n x).toNat : Int))
     have j0 : 0 ≤ (x : Int) := by omega
     have j1 : (x : Int) < 12 := by omega
     have j2 : (x : Int) < 16 := by omega
     generalize at0 n x = y at *
     clear hC hI hown hxn
     obtain ⟨ib, hib⟩ := byte_info
     go_wp2_with ((with_reducible refine tdQ 41 ?_); refine wpList_index_cell rfl (some 41) rfl 85 (.tmp 37) (.tmp 38) rfl (n.map bv).toArray rfl x rfl 12 5 Tryz.underlying85 byte_plain ib hib byteCells _ hix hlx ?_)
     exact ⟨⟨x + 1, by omega, by go_num, hC2, hset, ho2⟩, by simp [intOf]; omega⟩
    ·
     obtain rfl : x = 12 := by omega
     rw [show ((12 : Nat) : Int) = 12 from rfl]
     go_wp2_with fail
     refine (Bytes_4g ct _ (by have := Hfj.out; have := Hct.out; omega)).mono ?_
     rintro e w3 ⟨gB, cB, rfl, hgB, hcB, hcells, hb3⟩
     have hgI := hI.lt
     have hgne : gI ≠ gB := by omega
     have hC3 := hC.call hb3
     have hI3 := hI.below hb3 hI.lt
     have ho3 := own_below_ hown hb3
     clear hC hI hown hb3
     go_wp2_with fail
     go_loopw [52] (fun i wr => ∃ x : Nat, x ≤ 4 ∧ i = .int .i64 (x : Int) ∧ Cst w wr k n b A m ∧ ArrB wr gI 83 (upto (at0 (cinU n ct)) (fun _ => 0) 16 (12 + x)) ∧ wr.ownsRow (w.heap.size + 2) 5 1 (.slice A0 p c0) p ((U.take p).map bv) ∧ (∀ i y, (be 4 ct)[i]? = some y → wr.cell? ⟨gB, i, none⟩ = some (.int .u8 (y.toNat : Int)))) (fun i _ => (4 - intOf i).toNat)
     case atStart => exact ⟨0, by omega, rfl, hC3, hI3, ho3, hcells⟩
     case round =>
      clear hC3 hI3 ho3 hcells
      obtain ⟨x, hx, rfl, hC, hI, hown, hcells⟩ := hrel
      by_cases hlx2 : x < 4
      ·
       have hcy := hcells x _ (cin_high Hn.out hlx2)
       have hca := hI.cell (upto_old (at0 (cinU n ct)) (fun _ => 0) (show 12 + x < 16 by omega) (Nat.le_refl _))
       have hfa := hI.frozen (12 + x)
       have hset := hI.set_ (12 + x) (at0 (cinU n ct) (12 + x))
       rw [← upto_succ] at hset
       have hC2 := hC.setCell (p := ⟨gI, 12 + x, none⟩) Hsz.out (.int .u8 ((at0 (cinU n ct) (12 + x)).toNat : Int))
       have ho2 := own_set_far (p := ⟨gI, 12 + x, none⟩) hown (fun g hg => by have := Hnw.out g hg; show g ≠ gI; omega) (.int .u8 ((at0 (cinU n ct) (12 + x)).toNat : Int))
       have hcells2 : ∀ i y, (be 4 ct)[i]? = some y → (wr.setCell ⟨gI, 12 + x, none⟩ (.int .u8 ((at0 (cinU n ct) (12 + x)).toNat : Int))).cell? ⟨gB, i, none⟩ = some (.int .u8 (y.toNat : Int)) := fun i y h => by
        rw [World.cell?_setCell_other _ _ _ _ (fun e => hgne (congrArg Addr.block e))]
        exact hcells i y h
       have hw12 : IntKind.i64.wrap (12 + (x : Int)) = ((12 + x : Nat) : Int) := by rw [IntKind.wrap_i64]; omega
       have j0 : 0 ≤ (x : Int) := by omega
       have j1 : (x : Int) < 4 := by omega
       have j2 : 0 ≤ ((12 + x : Nat) : Int) := by omega
       have j3 : ((12 + x : Nat) : Int) < 16 := by omega
       rw [show 12 + x + 1 = 12 + (x + 1) by omega] at hset
       have HS := Lib.hid hset
       clear hset hC hI hown hcells
       generalize at0 (cinU n ct) (12 + x) = y at *
       have hxx : x ≤ x := Nat.le_refl x
       generalize hq : 12 + x = q at *
       have HQ := Lib.hid hq
       clear hq
       go_wp2_with fail
       exact ⟨⟨x + 1, by omega, by go_num, hC2, HS.out, ho2, hcells2⟩, by simp [intOf]; omega⟩
      ·
       obtain rfl : x = 4 := by omega
       rw [show ((4 : Nat) : Int) = 4 from rfl]
       rw [show 12 + 4 = 16 from rfl, upto_cin (cinU_len Hn.out ct)] at hI
       have hkr := hC.key
       go_wp2_with (first
        | ((with_reducible refine tdQ 62 ?_); refine wpList_load_row rfl 83 (.tmp 4) rfl w.heap.size rfl 83 (k.map bv).toArray (0, 0) _ hkr Tryz.underlying83 rfl (size16 Hk.out) ?_)
        | ((with_reducible refine tdQ 63 ?_); refine wpList_load_row rfl 83 (.tmp 13) rfl gI rfl 83 ((cinU n ct).map bv).toArray (0, 0) _ hI Tryz.underlying83 rfl (size16 (cinU_len Hn.out ct)) ?_))
       refine (REncrypt_any k (cinU n ct) _ Hk.out (cinU_len Hn.out ct)).mono ?_
       rintro e w5 ⟨rfl, hb5⟩
       have hC5 := hC.call hb5
       have ho5 := own_below_ hown hb5
       have Hat := Lib.hid (show ∀ x, x < 16 → p + x < m → at0 U (p + x) = at0 b (p + x) ^^^ at0 (encU k (cinU n ct)) x from fun x hx hpx => by
        rw [HUat.out _ hpx, show (p + x) / 16 = j by rw [Hp.out]; omega, show (p + x) % 16 = x by rw [Hp.out]; omega, ← Hct.out])
       have Hsl := Lib.hid (encU_len k (cinU n ct))
       have Hbel := Lib.hid (show ∀ g, (Value.slice A0 p c0).ownBlock = some g → g ≠ w5.heap.size from fun g hg => Nat.ne_of_lt (ho5.lt g hg).2)
       have hsz5 := hC5.size
       clear hC hI hown hcells hkr hb5 hgne hgB hcB hgI
       generalize encU k (cinU n ct) = s at *
       have hC6 := (hC5.alloc (.cells (zero16.map bv).toArray 83)).row hsz5 (s.map bv).toArray
       have hS6 := (ArrB.mk_ w5 83 _ zero16 rfl rfl).row s
       have ho6 := own_row_far (own_below_ ho5 (c_alloc (c_refl _) (.cells (zero16.map bv).toArray 83))) Hbel.out (s.map bv).toArray
       go_wp2_with ((with_reducible refine tsQ 83 ?_); refine srQ 83 (.tmp 18) (.tmp 64) w5.heap.size (s.map bv).toArray (zero16.map bv).toArray (heap_alloc_new _ _) (size16 Hsl.out) (same16 Hsl.out zero16_len) (one_bvA _) ?_)
       refine wp_gen (fun wx => Cst w wx k n b A m ∧ ArrB wx w5.heap.size 83 s ∧ wx.ownsRow (w.heap.size + 2) 5 1 (.slice A0 p c0) p ((U.take p).map bv)) ⟨hC6, hS6, ho6⟩ ?_
       clear hC5 ho5 hC6 hS6 ho6 Hnw Hsz
       have Hsz := Lib.hid hsz5
       clear hsz5
       generalize w5.heap.size = gS at *
       rintro w6 ⟨hC, hS, hown⟩
       go_loopw [11, 19] (fun v i wr => ∃ x : Nat, x ≤ 16 ∧ p + x ≤ m ∧ i = .int .i64 (x : Int) ∧ wr.ownsRow (w.heap.size + 2) 5 1 v (p + x) ((U.take (p + x)).map bv) ∧ Cst w wr k n b A m ∧ ArrB wr gS 83 s ∧ (∀ g, v.ownBlock = some g → g ≠ gS)) (fun _ i _ => (16 - intOf i).toNat)
       case atStart => exact ⟨0, by omega, by have := Hp0.out; omega, rfl, hown, hC, hS, Hbel.out⟩
       case round =>
        clear hC hS hown Hbel
        obtain ⟨x, hx, hpx, rfl, hown, hC, hS, hne⟩ := hrel
        by_cases hx16 : x < 16
        ·
         have j0 : 0 ≤ (x : Int) := by omega
         have j1 : (x : Int) < 16 := by omega
         obtain ⟨q, hq⟩ : ∃ q, q = p + x := ⟨_, rfl⟩
         have hwq : IntKind.i64.wrap ((p : Int) + (x : Int)) = (q : Int) := by rw [IntKind.wrap_i64]; have := Hm.out; omega
         have hAtx := Hat.out x hx16
         rw [← hq] at hown hpx hAtx
         have Hq := Lib.hid hq
         clear hq
         by_cases hqm : q < m
         ·
          have hAt := hAtx hqm
          obtain ⟨A2, c2, rfl, hc2, _⟩ := own_form hown
          have hr0 := hC.txt
          obtain ⟨bb, o, hAe, hbb, htx⟩ := hC.txt.pos (by omega)
          obtain ⟨y, hy⟩ : ∃ y, y = at0 b q := ⟨_, rfl⟩
          obtain ⟨sx, hsx⟩ : ∃ y, y = at0 s x := ⟨_, rfl⟩
          have cb : wr.cell? ⟨bb, o + q, none⟩ = some (.int .u8 (y.toNat : Int)) := htx q _ (by rw [List.getElem?_map, at0_of (by rw [Hb.out]; exact hqm), hy]; rfl)
          have cs : wr.cell? ⟨gS, x, none⟩ = some (.int .u8 (sx.toNat : Int)) := hS.cell (by rw [hsx]; exact at0_of (by rw [Hsl.out]; exact hx16))
          have hbx := b_xor y sx
          have HT := Lib.hid (show (U.take (q + 1)).map bv = (U.take q).map bv ++ [.int .u8 ((y ^^^ sx).toNat : Int)] by rw [take_more (by rw [HUl.out]; exact hqm), hAt, hy, hsx])
          have hHm := Hm.out
          have q0 : 0 ≤ (q : Int) := by omega
          have q9 : (q : Int) < (m : Int) := by omega
          have ho1 := own_below_ hown (c_alloc (c_drew (c_refl wr)) (.cells #[.int .u8 ((y ^^^ sx).toNat : Int)] 5))
          have hC1 := hC.drew.alloc (.cells #[.int .u8 ((y ^^^ sx).toNat : Int)] 5)
          have hS1 := hS.drew.alloc (.cells #[.int .u8 ((y ^^^ sx).toNat : Int)] 5)
          have Hown := Lib.hid hown
          have Hqm := Lib.hid hqm
          have Hx16 := Lib.hid hx16
          have Hne := Lib.hid hne
          have hbb2 : bb < wr.drew.heap.size := Nat.lt_of_lt_of_le hbb hC.bel.size
          have hgS2 : gS < wr.drew.heap.size := hS.lt
          have hS1c : (wr.drew.alloc (.cells #[.int .u8 ((y ^^^ sx).toNat : Int)] 5)).cell? ⟨bb, o + q, none⟩ = some (.int .u8 (y.toNat : Int)) ∧ (wr.drew.alloc (.cells #[.int .u8 ((y ^^^ sx).toNat : Int)] 5)).cell? ⟨gS, x, none⟩ = some (.int .u8 (sx.toNat : Int)) :=
           ⟨(World.cell?_alloc_lt _ _ _ hbb2).trans cb, (World.cell?_alloc_lt _ _ _ hgS2).trans cs⟩
          subst hAe
          clear hown hC hS hAt hAtx hy hsx htx hne hr0 hx16 hqm
          generalize y ^^^ sx = z at *
          go_wp2_with fail
          refine beginT (fun wx => wx.cell? ⟨bb, o + q, none⟩ = some (.int .u8 (y.toNat : Int)) ∧ wx.cell? ⟨gS, x, none⟩ = some (.int .u8 (sx.toNat : Int))) 15 (by kernel_rfl) ?_
          have hS := And.intro (show wr.drew.cell? ⟨bb, o + q, none⟩ = some (.int .u8 (y.toNat : Int)) from cb) (show wr.drew.cell? ⟨gS, x, none⟩ = some (.int .u8 (sx.toNat : Int)) from cs)
          refine tk 0 (some 79) (.slice A2 q c2) (fun _ _ _ h => h) hS ?_
          simp only [Act.put, sA, sZ, sS]
          refine tk 1 (some 80) (.slice (some ⟨bb, o, none⟩) m c) (fun _ _ _ h => h) hS ?_
          simp only [Act.put, sA, sZ, sS]
          refine tk 2 (some 81) (.int .u64 (j : Int)) (fun _ _ _ h => h) hS ?_
          simp only [Act.put, sA, sZ, sS]
          refine tk 3 (some 82) (.int .i64 (j : Int)) (fun _ _ _ h => h) hS ?_
          simp only [Act.put, sA, sZ, sS]
          refine tk 4 (some 83) (.int .i64 (p : Int)) (fun _ _ _ h => h) hS ?_
          simp only [Act.put, sA, sZ, sS]
          refine tk 5 (some 84) (.int .i64 (x : Int)) (fun _ _ _ h => h) hS ?_
          simp only [Act.put, sA, sZ, sS]
          refine tk 6 (some 85) (.int .i64 (q : Int)) (fun _ _ _ h => h) hS ?_
          simp only [Act.put, sA, sZ, sS]
          refine tk 7 (some 86) (.pointer (some ⟨bb, o + q, none⟩)) (fun _ _ _ h => h) hS ?_
          simp only [Act.put, sA, sZ, sS]
          refine takeD 8 (some 87) (.int .u8 (y.toNat : Int)) rfl rfl (by kernel_rfl) (by kernel_rfl) (by kernel_rfl) (by kernel_rfl) (fun _ _ _ h => h) (Or.inl ⟨by kernel_rfl, fun wx hSw => by have h := hSw.1; go_simp⟩) hS ?_
          simp only [Act.put, sA, sZ, sS]
          refine tk 9 (some 88) (.int .i64 (x : Int)) (fun _ _ _ h => h) hS ?_
          simp only [Act.put, sA, sZ, sS]
          refine tk 10 (some 89) (.pointer (some ⟨gS, x, none⟩)) (fun _ _ _ h => h) hS ?_
          simp only [Act.put, sA, sZ, sS]
          refine takeD 11 (some 90) (.int .u8 (sx.toNat : Int)) rfl rfl (by kernel_rfl) (by kernel_rfl) (by kernel_rfl) (by kernel_rfl) (fun _ _ _ h => h) (Or.inl ⟨by kernel_rfl, fun wx hSw => by have h := hSw.2; go_simp⟩) hS ?_
          simp only [Act.put, sA, sZ, sS]
          refine tk 12 (some 91) (.int .u8 (z.toNat : Int)) (fun _ _ _ h => h) hS ?_
          simp only [Act.put, sA, sZ, sS]
          refine on1 13 fun K hK => ?_
          go_simp
          refine hK.out _ _ (fun _ => hS1c) ?_
          clear hK K
          refine on1 14 fun K hK => ?_
          refine step_append_at (by kernel_rfl) (some 93) rfl (.tmp 79) (.tmp 92) _ rfl (w.heap.size + 2) 5 i0 _ 1 Tryz.underlying24 hi0 hz0 hz1 hz2 rfl (.slice A2 q c2) q _ rfl ho1 (wr.heap.size + 1) (some ⟨wr.heap.size, 0, none⟩) 1 1 [.int .u8 (z.toNat : Int)] rfl (Rd.new wr.drew 5 #[.int .u8 (z.toNat : Int)]) (by simp [Value.oneCell']) (by simp only [maxLen]; omega) (by omega) hC1.size ?_
          intro v4 w4 hown4 hgr4 hat4
          simp only [Act.put, sA, sZ, sS]
          refine hK.out _ _ (fun _ => ⟨(World.cell?_of_block (hgr4.block bb (Nat.lt_of_lt_of_le hbb2 (al0 _ _)) (fun e => by have := (Hown.out.lt bb e.symm).1; omega))).trans hS1c.1, (World.cell?_of_block (hgr4.block gS hS1.lt (fun e => Hne.out gS e.symm rfl))).trans hS1c.2⟩) ?_
          clear hK K
          refine on1 15 fun K hK => ?_
          go_simp
          refine hK.out _ _ (fun h => absurd rfl h) ?_
          clear hK K
          refine doneT (by kernel_rfl) ?_ _
          clear cb cs hbx hS
          go_wp2_with fail
          rw [← HT.out] at hown4
          have hC4 := hC1.grown hgr4 (fun g hg => (Hown.out.lt g hg).1)
          have hS4 : ArrB w4 gS 83 s := hS1.of (hgr4.block gS hS1.lt (fun e => Hne.out gS e.symm rfl))
          refine ⟨⟨x + 1, by have := Hx16.out; omega, by have := Hq.out; have := Hqm.out; omega, by go_num, by rw [show p + (x + 1) = q + 1 by have := Hq.out; omega]; exact hown4, hC4, hS4, fun g hg => ?_⟩, by have := Hx16.out; simp [intOf]; omega⟩
          rcases hat4 with h | h
          ·
           exact Hne.out g (h ▸ hg)
          ·
           have hg2 : (wr.drew.alloc (.cells #[.int .u8 (z.toNat : Int)] 5)).heap.size = g := Option.some.inj (h.symm.trans hg)
           rw [← hg2]
           exact Nat.ne_of_gt hS1.lt
         ·
          obtain rfl : q = m := by omega
          have Hx16 := Lib.hid hx16
          have hjj : IntKind.u64.wrap ((j : Int) + 1) = ((j + 1 : Nat) : Int) := by rw [IntKind.wrap_u64]; have := (HN.out j Hlt.out).2.2; omega
          have HT := Lib.hid (show U.take (16 * (j + 1)) = U.take q by
           rw [List.take_of_length_le (by rw [HUl.out]; have := Hq.out; have := Hp.out; omega), List.take_of_length_le (by rw [HUl.out]; exact Nat.le_refl _)])
          have Htl := Lib.hid (show (U.take q).length = q by rw [List.length_take, HUl.out]; omega)
          clear hqm hAtx hx16
          go_wp2_with fail
          exact ⟨⟨j + 1, Hlt.out, by go_num, by rw [HT.out, Htl.out]; exact hown, hC⟩, by have := Hlt.out; simp [intOf]; omega⟩
        ·
         obtain rfl : x = 16 := by omega
         rw [show ((16 : Nat) : Int) = 16 from rfl]
         have hjj : IntKind.u64.wrap ((j : Int) + 1) = ((j + 1 : Nat) : Int) := by rw [IntKind.wrap_u64]; have := (HN.out j Hlt.out).2.2; omega
         have HT := Lib.hid (show 16 * (j + 1) = p + 16 by have := Hp.out; omega)
         have Htl := Lib.hid (show (U.take (p + 16)).length = p + 16 by rw [List.length_take, HUl.out]; omega)
         clear hx16
         go_wp2_with fail
         exact ⟨⟨j + 1, Hlt.out, by go_num, by rw [HT.out, Htl.out]; exact hown, hC⟩, by have := Hlt.out; simp [intOf]; omega⟩
  ·
   obtain rfl : j = N := by omega
   rw [List.take_of_length_le (by rw [HUl.out]; exact HN2.out), HUl.out] at hown
   obtain ⟨A0, c0, rfl, _, _⟩ := own_form hown
   go_wp2_with fail
   exact bodyPost_ret (results_tmp2 rfl _ _ _) rfl ⟨A0, c0, rfl, own_base hown (by omega), hC.bel⟩
def arrTo (N : Nat) (b : List UInt8) (j : Nat) : List UInt8 := b.take j ++ List.replicate (N - j) 0
theorem arrTo_zero (N : Nat) (b : List UInt8) : arrTo N b 0 = List.replicate N 0 := by simp [arrTo]
theorem arrTo_all {N : Nat} {b : List UInt8} (hb : b.length = N) : arrTo N b N = b := by simp [arrTo, ← hb]
theorem arrTo_len {N : Nat} {b : List UInt8} {j : Nat} (hb : b.length = N) (hj : j ≤ N) : (arrTo N b j).length = N := by
 unfold arrTo
 simp
 omega
theorem arrTo_succ {N : Nat} {b : List UInt8} {j : Nat} {y : UInt8} (h : b[j]? = some y) (hb : b.length = N) : arrTo N b (j + 1) = (arrTo N b j).set j y := by
 have hj := (List.getElem?_eq_some_iff.1 h).1
 unfold arrTo
 rw [take_succ_of h, List.set_append_right _ _ (by simp; omega), show j - (b.take j).length = 0 from by simp; omega, show N - j = (N - (j + 1)) + 1 from by omega, List.replicate_succ]
 simp
theorem infoBk : (Tryz.prog.info? 83).map (·.size) = some 16 := by kernel_rfl
theorem infoNc : (Tryz.prog.info? 85).map (·.size) = some 12 := by kernel_rfl
theorem sizeBk {l : List UInt8} (h : l.length = 16) : (Tryz.prog.info? 83).map (·.size) = some ((l.map bv).toArray).size := by rw [infoBk]; simp [h]
theorem sizeNc {l : List UInt8} (h : l.length = 12) : (Tryz.prog.info? 85).map (·.size) = some ((l.map bv).toArray).size := by rw [infoNc]; simp [h]
theorem two_flat (a b : List UInt8) : [a, b].flatten = a ++ b := by simp
set_option maxRecDepth 100000 in
set_option maxHeartbeats 2000000 in
theorem RStream_any (k b : List UInt8) (A : Option Addr) (m c : Nat) (w : World) (hk : k.length = 32) (hr : Rd w w.heap.size A m (b.map bv)) (hm : m ≤ 1048576) (hK : KTab w) :
  Calls Tryz.prog 35 #[.agg (k.map bv).toArray, .slice A m c] w fun e w' =>
   ∃ A' c', e = .returned (.slice A' m c') ∧ w'.ownsRow w.heap.size 5 1 (.slice A' m c') m ((streamU k b).map bv) ∧ Below w.heap.size w w' := by
 have Hk := Lib.hid hk
 have hA4 : ArrB (w.alloc (.cells (k.map bv).toArray 23)) w.heap.size 23 k := ArrB.mk_ _ _ _ _ rfl rfl
 have hB4 := d_al w (.cells (k.map bv).toArray 23)
 have hx28 := expandU_len k streamL 28
 have Hst := Lib.hid (show streamU k b = ctrU ((expandU k streamL 28).take 16) ((expandU k streamL 28).drop 16) 0 b from rfl)
 have Hkb := Lib.hid (streamK_len k)
 have Hnb := Lib.hid (streamN_len k)
 clear hk
 go_enter Tryz.func35, Tryz.ntmps35
 go_upto_region 1 with (fail)
 generalize w.alloc (.cells (k.map bv).toArray 23) = w4 at *
 go_wp2_with ((with_reducible refine tdQ 14 ?_); refine wpList_load_row rfl 23 (.tmp 2) rfl (w.heap.size) rfl 23 (k.map bv).toArray (0, 0) _ (hA4) Tryz.underlying23 rfl (infoK32 Hk.out) ?_)
 have f1 : Rd (w4.alloc (.cells #[.int .u8 115, .int .u8 116, .int .u8 114, .int .u8 101, .int .u8 97, .int .u8 109] 5 (6, 7))) (w4.alloc (.cells #[.int .u8 115, .int .u8 116, .int .u8 114, .int .u8 101, .int .u8 97, .int .u8 109] 5 (6, 7))).heap.size (some ⟨w4.heap.size, 0, none⟩) 6 (streamL.map bv) := Rd.mkFr _ _ _ _ rfl (by simp) rfl rfl
 have f2 : Below w4.heap.size w4 (w4.alloc (.cells #[.int .u8 115, .int .u8 116, .int .u8 114, .int .u8 101, .int .u8 97, .int .u8 109] 5 (6, 7))) := d_al _ _
 have K0 := Lib.hid (Go.Joins.run_convert_bytes_const_at (P := Tryz.prog) w4 24 5 #[.int .u8 115, .int .u8 116, .int .u8 114, .int .u8 101, .int .u8 97, .int .u8 109] 6 6 w4.heap.size rfl Tryz.underlying24 Tryz.underlying5)
 rw [K0.out]
 clear K0
 generalize w4.alloc (.cells #[.int .u8 115, .int .u8 116, .int .u8 114, .int .u8 101, .int .u8 97, .int .u8 109] 5 (6, 7)) = wa at *
 have hBa := c_call hB4 f2
 go_wp2_with fail
 have hcall := rExpand_ok k (some ⟨w4.heap.size, 0, none⟩) 6 6 streamL 28 wa Hk.out (by omega) (by omega) (by omega) f1 (hK.below hBa)
 rw [show ((28 : Nat) : Int) = 28 from rfl] at hcall
 refine hcall.mono ?_
 rintro e w8 ⟨A8, c8, rfl, hc8, hr8, hb8⟩
 clear hcall f1 f2 hA4 hB4
 have hB8 := c_call hBa hb8
 have hrb := d_rd hr hB8
 clear hb8 hBa hr
 obtain ⟨x, hx⟩ : ∃ x, x = expandU k streamL 28 := ⟨_, rfl⟩
 rw [← hx] at hr8 hx28 Hst Hkb Hnb
 clear hx
 obtain ⟨kb, hkb⟩ : ∃ kb, kb = x.take 16 := ⟨_, rfl⟩
 obtain ⟨nb, hnb⟩ : ∃ nb, nb = x.drop 16 := ⟨_, rfl⟩
 rw [← hkb, ← hnb] at Hst
 rw [← hkb] at Hkb
 rw [← hnb] at Hnb
 have Hke := Lib.hid hkb
 have Hne := Lib.hid hnb
 clear hkb hnb
 obtain ⟨ba, o, rfl, hba, hcell⟩ := hr8.pos (by omega)
 clear hcell
 have hs8 := hB8.size
 have hG1 : ArrB (w8.alloc (.cells #[.int .u8 0, .int .u8 0, .int .u8 0, .int .u8 0, .int .u8 0, .int .u8 0, .int .u8 0, .int .u8 0, .int .u8 0, .int .u8 0, .int .u8 0, .int .u8 0, .int .u8 0, .int .u8 0, .int .u8 0, .int .u8 0] 83)) w8.heap.size 83 (List.replicate 16 0) := ArrB.mk_ _ _ _ _ rfl rfl
 have hG2 : ArrB ((w8.alloc (.cells #[.int .u8 0, .int .u8 0, .int .u8 0, .int .u8 0, .int .u8 0, .int .u8 0, .int .u8 0, .int .u8 0, .int .u8 0, .int .u8 0, .int .u8 0, .int .u8 0, .int .u8 0, .int .u8 0, .int .u8 0, .int .u8 0] 83)).alloc (.cells #[.int .u8 0, .int .u8 0, .int .u8 0, .int .u8 0, .int .u8 0, .int .u8 0, .int .u8 0, .int .u8 0, .int .u8 0, .int .u8 0, .int .u8 0, .int .u8 0] 85)) (w8.heap.size + 1) 85 (List.replicate 12 0) := ArrB.mk_ _ _ _ _ (by simp) rfl
 have hG1' := hG1.alloc (.cells #[.int .u8 0, .int .u8 0, .int .u8 0, .int .u8 0, .int .u8 0, .int .u8 0, .int .u8 0, .int .u8 0, .int .u8 0, .int .u8 0, .int .u8 0, .int .u8 0] 85)
 have hBx := c_alloc (c_alloc hB8 (.cells #[.int .u8 0, .int .u8 0, .int .u8 0, .int .u8 0, .int .u8 0, .int .u8 0, .int .u8 0, .int .u8 0, .int .u8 0, .int .u8 0, .int .u8 0, .int .u8 0, .int .u8 0, .int .u8 0, .int .u8 0, .int .u8 0] 83)) (.cells #[.int .u8 0, .int .u8 0, .int .u8 0, .int .u8 0, .int .u8 0, .int .u8 0, .int .u8 0, .int .u8 0, .int .u8 0, .int .u8 0, .int .u8 0, .int .u8 0] 85)
 have hRx := (hr8.alloc (Nat.le_refl _) (.cells #[.int .u8 0, .int .u8 0, .int .u8 0, .int .u8 0, .int .u8 0, .int .u8 0, .int .u8 0, .int .u8 0, .int .u8 0, .int .u8 0, .int .u8 0, .int .u8 0, .int .u8 0, .int .u8 0, .int .u8 0, .int .u8 0] 83)).alloc (al0 _ _) (.cells #[.int .u8 0, .int .u8 0, .int .u8 0, .int .u8 0, .int .u8 0, .int .u8 0, .int .u8 0, .int .u8 0, .int .u8 0, .int .u8 0, .int .u8 0, .int .u8 0] 85)
 have hRb := (hrb.alloc (Nat.le_refl _) (.cells #[.int .u8 0, .int .u8 0, .int .u8 0, .int .u8 0, .int .u8 0, .int .u8 0, .int .u8 0, .int .u8 0, .int .u8 0, .int .u8 0, .int .u8 0, .int .u8 0, .int .u8 0, .int .u8 0, .int .u8 0, .int .u8 0] 83)).alloc (al0 _ _) (.cells #[.int .u8 0, .int .u8 0, .int .u8 0, .int .u8 0, .int .u8 0, .int .u8 0, .int .u8 0, .int .u8 0, .int .u8 0, .int .u8 0, .int .u8 0, .int .u8 0] 85)
 go_upto_region 4 with (fail)
 refine wp_gen (fun wx => ArrB wx w8.heap.size 83 (List.replicate 16 0) ∧ ArrB wx (w8.heap.size + 1) 85 (List.replicate 12 0) ∧ Below w.heap.size w wx ∧ Rd wx w8.heap.size (some ⟨ba, o, none⟩) 28 (x.map bv) ∧ Rd wx w8.heap.size A m (b.map bv)) ⟨hG1', hG2, hBx, hRx, hRb⟩ ?_
 clear hG1 hG2 hG1' hBx hRx hRb hB8 hr8 hrb
 rintro wb ⟨hE1, hE2, hE3, hE4, hE5⟩
 generalize w8.heap.size = gB at *
 go_wp2_with fail
 go_loopw [20] (fun i wr => ∃ j : Nat, j ≤ 16 ∧ i = .int .i64 (j : Int) ∧ ArrB wr gB 83 (arrTo 16 kb j) ∧ ArrB wr (gB + 1) 85 (List.replicate 12 0) ∧ Below w.heap.size w wr ∧ Rd wr gB (some ⟨ba, o, none⟩) 28 (x.map bv) ∧ Rd wr gB A m (b.map bv)) (fun i _ => 16 - (intOf i).toNat)
 case atStart => exact ⟨0, by omega, rfl, by rw [arrTo_zero]; exact hE1, hE2, hE3, hE4, hE5⟩
 case round =>
  clear hE1 hE2 hE3 hE4 hE5
  obtain ⟨j, hj, rfl, hA, hN, hB, hX, hT⟩ := hrel
  by_cases hlt : j < 16
  ·
   obtain ⟨y, hy⟩ : ∃ y, x[j]? = some y := ⟨_, List.getElem?_eq_getElem (by omega)⟩
   have cb : wr.cell? ⟨ba, o + j, none⟩ = some (.int .u8 (y.toNat : Int)) := by
    obtain ⟨b', o', he, _, hcz⟩ := hX.pos (by omega)
    injection he with he
    injection he with he1 he2
    subst he1 he2
    exact hcz j _ (by rw [List.getElem?_map, hy]; rfl)
   have hyk : kb[j]? = some y := by rw [Hke.out, List.getElem?_take, if_pos hlt]; exact hy
   have kl := arrTo_len Hkb.out hj
   obtain ⟨z0, hz0⟩ : ∃ z0, (arrTo 16 kb j)[j]? = some z0 := ⟨_, List.getElem?_eq_getElem (by omega)⟩
   have c0 := hA.cell hz0
   have f0 := hA.frozen j
   have Hs := Lib.hid (arrTo_succ hyk Hkb.out)
   have hA2 := hA.set_ j y
   rw [← Hs.out] at hA2
   have hN2 := hN.far (p := ⟨gB, j, none⟩) (show gB + 1 ≠ gB by omega) (.int .u8 (y.toNat : Int))
   have hX2 := hX.setCell (p := ⟨gB, j, none⟩) (Nat.le_refl _) (.int .u8 (y.toNat : Int))
   have hT2 := hT.setCell (p := ⟨gB, j, none⟩) (Nat.le_refl _) (.int .u8 (y.toNat : Int))
   have hB2 := hB.setCell (p := ⟨gB, j, none⟩) hs8 (.int .u8 (y.toNat : Int))
   have j0 : (0 : Int) ≤ (j : Int) := by omega
   have j1 : (j : Int) < 16 := by omega
   have j2 : (j : Int) < 28 := by omega
   clear hy hz0 kl hyk
   go_wp2_with fail
   go_roundw
   case rel => exact ⟨j + 1, by omega, by go_num, hA2, hN2, hB2, hX2, hT2⟩
   case measure => simp [intOf]; omega
  ·
   obtain rfl : j = 16 := by omega
   rw [arrTo_all Hkb.out] at hA
   rw [show ((16 : Nat) : Int) = 16 from rfl]
   go_wp2_with fail
   go_loopw [30] (fun i wr => ∃ j : Nat, j ≤ 12 ∧ i = .int .i64 (j : Int) ∧ ArrB wr gB 83 kb ∧ ArrB wr (gB + 1) 85 (arrTo 12 nb j) ∧ Below w.heap.size w wr ∧ Rd wr gB (some ⟨ba, o, none⟩) 28 (x.map bv) ∧ Rd wr gB A m (b.map bv)) (fun i _ => 12 - (intOf i).toNat)
   case atStart => exact ⟨0, by omega, rfl, hA, by rw [arrTo_zero]; exact hN, hB, hX, hT⟩
   case round =>
    clear hA hN hB hX hT
    obtain ⟨j, hj, rfl, hA, hN, hB, hX, hT⟩ := hrel
    by_cases hlt : j < 12
    ·
     obtain ⟨y, hy⟩ : ∃ y, x[16 + j]? = some y := ⟨_, List.getElem?_eq_getElem (by omega)⟩
     have cb : wr.cell? ⟨ba, o + (16 + j), none⟩ = some (.int .u8 (y.toNat : Int)) := by
      obtain ⟨b', o', he, _, hcz⟩ := hX.pos (by omega)
      injection he with he
      injection he with he1 he2
      subst he1 he2
      exact hcz (16 + j) _ (by rw [List.getElem?_map, hy]; rfl)
     have hyk : nb[j]? = some y := by rw [Hne.out, List.getElem?_drop]; exact hy
     have kl := arrTo_len Hnb.out hj
     obtain ⟨z0, hz0⟩ : ∃ z0, (arrTo 12 nb j)[j]? = some z0 := ⟨_, List.getElem?_eq_getElem (by omega)⟩
     have c0 := hN.cell hz0
     have f0 := hN.frozen j
     have Hs := Lib.hid (arrTo_succ hyk Hnb.out)
     have hN2 := hN.set_ j y
     rw [← Hs.out] at hN2
     have hA2 := hA.far (p := ⟨gB + 1, j, none⟩) (show gB ≠ gB + 1 by omega) (.int .u8 (y.toNat : Int))
     have hX2 := hX.setCell (p := ⟨gB + 1, j, none⟩) (Nat.le_succ _) (.int .u8 (y.toNat : Int))
     have hT2 := hT.setCell (p := ⟨gB + 1, j, none⟩) (Nat.le_succ _) (.int .u8 (y.toNat : Int))
     have hB2 := hB.setCell (p := ⟨gB + 1, j, none⟩) (by show _ ≤ gB + 1; omega) (.int .u8 (y.toNat : Int))
     have e16 : (16 : Int) + (j : Int) = ((16 + j : Nat) : Int) := by omega
     have hw16 : IntKind.i64.wrap ((16 + j : Nat) : Int) = ((16 + j : Nat) : Int) := by rw [IntKind.wrap_i64]; omega
     have j0 : (0 : Int) ≤ (j : Int) := by omega
     have j1 : (j : Int) < 12 := by omega
     have j2 : ((16 + j : Nat) : Int) < 28 := by omega
     have j3 : 0 ≤ ((16 + j : Nat) : Int) := by omega
     have Hnx := Lib.hid (show (j : Int) + 1 = ((j + 1 : Nat) : Int) by omega)
     clear hy hz0 kl hyk
     generalize 16 + j = jj at *
     go_wp2_with fail
     go_roundw
     case rel => exact ⟨j + 1, by omega, by go_num, hA2, hN2, hB2, hX2, hT2⟩
     case measure => simp [intOf]; omega
    ·
     obtain rfl : j = 12 := by omega
     rw [arrTo_all Hnb.out] at hN
     rw [show ((12 : Nat) : Int) = 12 from rfl]
     have hsz := hA.lt
     have hcall := RCtr_ok kb nb b 0 m c A wr Hkb.out Hnb.out (by omega) (hT.more (Nat.le_of_lt hsz)) hm (by unfold nbs; omega)
     rw [show ((0 : Nat) : Int) = 0 from rfl, ← Hst.out] at hcall
     go_wp2_with (first
      | ((with_reducible refine tdQ 42 ?_); refine wpList_load_row rfl 83 (.tmp 7) rfl (gB) rfl 83 (kb.map bv).toArray (0, 0) _ (hA) Tryz.underlying83 rfl (sizeBk Hkb.out) ?_)
      | ((with_reducible refine tdQ 43 ?_); refine wpList_load_row rfl 85 (.tmp 8) rfl (gB + 1) rfl 85 (nb.map bv).toArray (0, 0) _ (hN) Tryz.underlying85 rfl (sizeNc Hnb.out) ?_))
     refine hcall.mono ?_
     rintro e w9 ⟨A9, c9, rfl, ho9, hb9⟩
     go_wp2_with fail
     go_ret
     exact ⟨A9, c9, rfl, own_base ho9 hB.size, c_call hB hb9⟩
def TagPost (w : World) (k hidden : List UInt8) (ts : List (List UInt8)) (e : Ending) (w' : World) : Prop :=
 Below w.heap.size w w' ∧ ((GoodT ts ∧ ∃ g c, w.heap.size ≤ g ∧ 16 ≤ c ∧ e = .returned (.tuple #[.slice (some ⟨g, 0, none⟩) 16 c, .bool true]) ∧ Rd w' w'.heap.size (some ⟨g, 0, none⟩) 16 ((tagU k hidden ts).map bv)) ∨
  (¬ GoodT ts ∧ e = .returned (.tuple #[.slice none 0 0, .bool false])))
theorem TagPost.yes {w w' : World} {k hidden : List UInt8} {ts : List (List UInt8)} {e : Ending} (h : TagPost w k hidden ts e w') (hg : GoodT ts) :
  ∃ g c, w.heap.size ≤ g ∧ 16 ≤ c ∧ e = .returned (.tuple #[.slice (some ⟨g, 0, none⟩) 16 c, .bool true]) ∧ Rd w' w'.heap.size (some ⟨g, 0, none⟩) 16 ((tagU k hidden ts).map bv) ∧ Below w.heap.size w w' := by
 obtain ⟨hb, ⟨_, g, c, h1, h2, h3, h4⟩ | ⟨h1, _⟩⟩ := h
 ·
  exact ⟨g, c, h1, h2, h3, h4, hb⟩
 ·
  exact absurd hg h1
theorem TagPost.no {w w' : World} {k hidden : List UInt8} {ts : List (List UInt8)} {e : Ending} (h : TagPost w k hidden ts e w') (hg : ¬ GoodT ts) :
  e = .returned (.tuple #[.slice none 0 0, .bool false]) ∧ Below w.heap.size w w' := by
 obtain ⟨hb, ⟨h1, _⟩ | ⟨_, h2⟩⟩ := h
 ·
  exact absurd h1 hg
 ·
  exact ⟨h2, hb⟩
set_option maxRecDepth 100000 in
set_option maxHeartbeats 2000000 in
theorem RTag_any (k b : List UInt8) (A : Option Addr) (m c : Nat) (At : Option Addr) (mt ct : Nat) (vs : List Value) (ts : List (List UInt8)) (w : World) (hk : k.length = 32) (hmc : m ≤ c) (hr : Rd w w.heap.size A m (b.map bv)) (hm : m ≤ 1048576)
  (hmt : mt ≤ 1048576) (htx : GoodT ts → (txs ts).length ≤ 536870912) (hv : Rd w w.heap.size At mt vs) (ht : Txs w w.heap.size vs ts) (hK : KTab w) :
  Calls Tryz.prog 36 #[.agg (k.map bv).toArray, .slice A m c, .slice At mt ct] w (TagPost w k b ts) := by
 have Hk := Lib.hid hk
 have Hbl := Lib.hid (show b.length = m by simpa using hr.len)
 have Htl := Lib.hid (show ts.length = mt by rw [← ht.1]; exact hv.len)
 have hA4 : ArrB (w.alloc (.cells (k.map bv).toArray 23)) w.heap.size 23 k := ArrB.mk_ _ _ _ _ rfl rfl
 have hB4 := d_al w (.cells (k.map bv).toArray 23)
 have hlt4 := hA4.lt
 have hr4 := d_rd hr hB4
 have hv4 := d_rd hv hB4
 have ht4 := d_txs ht hB4
 clear hk hr hv ht
 obtain ⟨i0, hi0, hz0, hz1, hz2⟩ := info_parts byteInfo
 go_enter Tryz.func36, Tryz.ntmps36
 go_upto_region 1 with (fail)
 generalize w.alloc (.cells (k.map bv).toArray 23) = w4 at *
 go_wp2_with fail
 refine (refText_any none 0 0 [] At mt ct vs ts w4 (by omega) (by omega) (Rd.zero _ _ _) hv4 ht4).mono ?_
 intro e w5 hP
 by_cases hg : GoodT ts
 rotate_left
 ·
  obtain ⟨rfl, hb5⟩ := hP.no hg
  go_wp2_with fail
  exact bodyPost_ret (results_tmp2 rfl _ _ _) rfl ⟨c_call hB4 hb5, .inr ⟨hg, rfl⟩⟩
 obtain ⟨A5, n, c5, rfl, hown5, hnc, hln0, hb5⟩ := hP.yes hg
 rw [List.nil_append] at hown5 hln0
 have hln : n ≤ 536870912 := by rw [hln0.out]; exact htx hg
 have hA5 := hA4.below hb5 hA4.lt
 have hr5 := d_rd hr4 hb5
 have hB5 := c_call hB4 hb5
 have hs5 := hb5.size
 have hcb := fun wx => Bytes_any 4 mt wx (by omega) (by omega)
 rw [show ((4 : Nat) : Int) = 4 from rfl] at hcb
 have hwm : IntKind.u64.wrap (mt : Int) = (mt : Int) := by rw [IntKind.wrap_u64]; omega
 have m0 : (0 : Int) ≤ (mt : Int) := by omega
 clear hA4 hv4 ht4 hP
 go_wp2_with fail
 refine (hcb _).mono ?_
 rintro e w6 ⟨A6, c6, rfl, hown6, hb6⟩
 have hr6n := Rd.of_own hown6
 have hl6 : ((be 4 mt).map bv).length = 4 := by simp [be_length]
 have hown5' := own_below hown5 hb6
 have hA6 := hA5.below hb6 hA5.lt
 have hr6 := d_rd hr5 hb6
 have hB6 := c_call hB5 hb6
 have hs6 := hb6.size
 clear hA5 hr5 hcb
 have hr46 := hr4.below (c_call hb5 hb6)
 have hge : ∀ g, (Value.slice A5 n c5).ownBlock = some g → w4.heap.size ≤ g := fun g hg => (hown5'.lt g hg).1
 go_wp2_with (first
  | (at_builtin; refine wpList_append_rd _ rfl (.tmp 20) (.tmp 24) _ rfl (w4.heap.size) 5 i0 _ 1 Tryz.underlying24 hi0 hz0 hz1 hz2 rfl (.slice A5 n c5) n _ rfl hown5' w6.heap.size A6 4 c6 ((be 4 mt).map bv) rfl hr6n (one_bv _) (by simp only [maxLen]; omega) (by omega) (by omega) ?_; intro v7 w7 hown7 hgr7 hat7; obtain ⟨A7, c7, rfl, hc7, _⟩ := own_form hown7; have hA7 := hA6.of (hgr7.block w.heap.size (by have := hA6.lt; omega) (fun e => by have := hge _ e.symm; omega)); have hB7 := hB6.grown hgr7 hB6.size (fun g hg => Nat.le_trans hB4.size (hge g hg)))
  | ((with_reducible refine tdQ 27 ?_); refine wpList_load_row rfl 23 (.tmp 3) rfl (w.heap.size) rfl 23 (k.map bv).toArray (0, 0) _ (hA7) Tryz.underlying23 rfl (infoK32 Hk.out) ?_))
 have hr7a := Rd.of_own hown7
 rw [← List.map_append] at hr7a
 have Hbes := Lib.hid (show txs ts ++ be 4 mt = besideU ts by unfold besideU; rw [Htl.out])
 rw [Hbes.out] at hr7a
 have hs7 := hgr7.size
 have hr7t := (hr46.grown hgr7 (by omega) hge).more (show w4.heap.size ≤ w7.heap.size by omega)
 have hbl7 := Lib.hid (show (besideU ts).length = n + 4 by rw [← Hbes.out, List.length_append, be_length, hln0.out])
 have Htag := Lib.hid (show tagU k b ts = (macU (expandU k sumL 32) (besideU ts ++ b)).take 16 from rfl)
 generalize besideU ts = bes at *
 clear hown7 hgr7 hat7 hown6 hown5' hr6n hA6 hr6 hB6 hown5 hb6 hb5 hB5 hge hr46 hA7
 have f1 : Rd (w7.alloc (.cells #[.int .u8 115, .int .u8 117, .int .u8 109] 5 (3, 4))) (w7.alloc (.cells #[.int .u8 115, .int .u8 117, .int .u8 109] 5 (3, 4))).heap.size (some ⟨w7.heap.size, 0, none⟩) 3 (sumL.map bv) := Rd.mkFr _ _ _ _ rfl (by simp) rfl rfl
 have f2 : Below w7.heap.size w7 (w7.alloc (.cells #[.int .u8 115, .int .u8 117, .int .u8 109] 5 (3, 4))) := d_al _ _
 have K0 := Lib.hid (Go.Joins.run_convert_bytes_const_at (P := Tryz.prog) w7 24 5 #[.int .u8 115, .int .u8 117, .int .u8 109] 3 3 w7.heap.size rfl Tryz.underlying24 Tryz.underlying5)
 rw [K0.out]
 clear K0
 generalize w7.alloc (.cells #[.int .u8 115, .int .u8 117, .int .u8 109] 5 (3, 4)) = wa at *
 have hBa := c_call hB7 f2
 have hraa := d_rd hr7a f2
 have hrat := d_rd hr7t f2
 go_wp2_with fail
 have hcall := rExpand_ok k (some ⟨w7.heap.size, 0, none⟩) 3 3 sumL 32 wa Hk.out (by omega) (by omega) (by omega) f1 (hK.below hBa)
 rw [show ((32 : Nat) : Int) = 32 from rfl] at hcall
 refine hcall.mono ?_
 rintro e w8 ⟨A8, c8, rfl, hc8, hr8, hb8⟩
 have hB8 := c_call hBa hb8
 have hr8a := d_rd hraa hb8
 have hr8t := d_rd hrat hb8
 have Hxl := Lib.hid (expandU_len k sumL 32)
 clear hcall f1 f2 hr7a hr7t hraa hrat hBa hB7
 generalize expandU k sumL 32 = xs at *
 have hal := d_al w8 (.cells #[.slice A7 (n + 4) c7, .slice A m c] 24)
 have hmac := rMac_any A8 32 c8 xs (some ⟨w8.heap.size, 0, none⟩) 2 2 [.slice A7 (n + 4) c7, .slice A m c] [bes, b] (w8.alloc (.cells #[.slice A7 (n + 4) c7, .slice A m c] 24)) hc8 (by omega) (by omega) (by rw [two_flat]; simp only [List.length_append, hbl7.out, Hbl.out]; omega) (d_rd hr8 hal) (Rd.mk_ _ _ _ rfl (by simp) rfl rfl)
  (Txs.cons (txs_one1 hbl7.out hc7 (d_rd hr8a hal)) (txs_one1 Hbl.out hmc (d_rd hr8t hal))) (hK.below (c_call hB8 hal))
 rw [two_flat] at hmac
 go_wp2_with fail
 refine hmac.mono ?_
 rintro e w9 ⟨rfl, hb9⟩
 have hB9 := c_call (c_call hB8 hal) hb9
 have Hml := Lib.hid (macU_len xs (bes ++ b))
 clear hmac hb9 hal hr8 hr8a hr8t hB8
 generalize macU xs (bes ++ b) = mc at *
 have hQ : ArrB (w9.alloc (.cells (mc.map bv).toArray 23)) w9.heap.size 23 mc := ArrB.mk_ _ _ _ _ rfl rfl
 have hrQ := (hQ.rd Hml.out).take (show 16 ≤ 32 by omega)
 rw [← List.map_take, ← Htag.out] at hrQ
 go_wp2_with ((with_reducible refine tsQ 23 ?_); refine srQ 23 (.tmp 12) (.tmp 37) w9.heap.size (mc.map bv).toArray ((List.replicate 32 (0 : UInt8)).map bv).toArray (heap_alloc_new _ _) (infoK32 Hml.out) (sizeK Hml.out) (one_bvA _) ?_; rw [World.setRow_alloc_new])
 exact bodyPost_ret (results_tmp2 rfl _ _ _) rfl ⟨c_alloc hB9 _, .inl ⟨hg, w9.heap.size, 32, hB9.size, by omega, rfl, hrQ⟩⟩
theorem own_cap {w : World} {base n c : Nat} {e : TypeId} {A : Option Addr} {xs : List Value} (h : w.ownsRow base e 1 (.slice A n c) n xs) : n ≤ c := by
 obtain ⟨A', c', h1, h2, _⟩ := own_form h
 injection h1 with _ _ h3
 omega
def NewB (w w' : World) (A : Option Addr) (n c : Nat) (xs : List UInt8) : Prop :=
 Rd w' w'.heap.size A n (xs.map bv) ∧ n ≤ c ∧ c ≤ maxLen ∧ ∀ ad, A = some ad → w.heap.size ≤ ad.block ∧ ∀ j, w'.frozen? ⟨ad.block, j, none⟩ = false
theorem NewB.of_own {w w' : World} {base n c : Nat} {A : Option Addr} {xs : List UInt8} (h : w'.ownsRow base 5 1 (.slice A n c) n (xs.map bv)) (hb : w.heap.size ≤ base) : NewB w w' A n c xs := by
 refine ⟨Rd.of_own h, own_cap h, ?_, fun ad had => ?_⟩
 ·
  rcases h.2 with ⟨h1, h2⟩ | ⟨g, cap, cur, h1, _, _, _, h2, _⟩
  ·
   injection h1 with _ _ h3
   subst h3
   exact Nat.zero_le _
  ·
   injection h1 with _ _ h3
   subst h3
   exact h2
 ·
  rcases h.2 with ⟨h1, _⟩ | ⟨g, cap, cur, h1, h2, h3, _⟩
  ·
   injection h1 with h3
   rw [h3] at had
   cases had
  ·
   injection h1 with h4
   rw [h4] at had
   injection had with had
   subst had
   exact ⟨Nat.le_trans hb h2, fun j => frozen_of_row w' g j _ _ h3⟩
def SealPost (w : World) (k b : List UInt8) (ts : List (List UInt8)) (e : Ending) (w' : World) : Prop :=
 Below w.heap.size w w' ∧ ((b.length ≤ 1048576 ∧ GoodT ts ∧ ∃ A n c, e = .returned (.tuple #[.slice A n c, .int .i64 0]) ∧ NewB w w' A n c (sealU k b ts)) ∨
  (¬ (b.length ≤ 1048576 ∧ GoodT ts) ∧ e = .returned (.tuple #[.slice none 0 0, .int .i64 4])))
def OpenPost (w : World) (k b : List UInt8) (ts : List (List UInt8)) (e : Ending) (w' : World) : Prop :=
 Below w.heap.size w w' ∧ ((b.length < 16 ∧ e = .returned (.tuple #[.slice none 0 0, .int .i64 2])) ∨
  (16 ≤ b.length ∧ ¬ (b.length ≤ 1048592 ∧ GoodT ts) ∧ e = .returned (.tuple #[.slice none 0 0, .int .i64 4])) ∨
  (16 ≤ b.length ∧ b.length ≤ 1048592 ∧ GoodT ts ∧ ¬ soundU k b ts ∧ e = .returned (.tuple #[.slice none 0 0, .int .i64 5])) ∨
  (16 ≤ b.length ∧ b.length ≤ 1048592 ∧ GoodT ts ∧ soundU k b ts ∧ ∃ A n c, e = .returned (.tuple #[.slice A n c, .int .i64 0]) ∧ NewB w w' A n c (openU k b)))
theorem SealPost.yes {w w' : World} {k b : List UInt8} {ts : List (List UInt8)} {e : Ending} (h : SealPost w k b ts e w') (hl : b.length ≤ 1048576) (hg : GoodT ts) :
  ∃ A c, e = .returned (.tuple #[.slice A (b.length + 16) c, .int .i64 0]) ∧ NewB w w' A (b.length + 16) c (sealU k b ts) ∧ Below w.heap.size w w' := by
 obtain ⟨hb, ⟨_, _, A, n, c, rfl, hn⟩ | ⟨h1, _⟩⟩ := h
 ·
  have hl2 : n = b.length + 16 := by
   have := hn.1.len
   rw [List.length_map, sealU_len] at this
   omega
  subst hl2
  exact ⟨A, c, rfl, hn, hb⟩
 ·
  exact absurd ⟨hl, hg⟩ h1
theorem SealPost.no {w w' : World} {k b : List UInt8} {ts : List (List UInt8)} {e : Ending} (h : SealPost w k b ts e w') (hn : ¬ (b.length ≤ 1048576 ∧ GoodT ts)) :
  e = .returned (.tuple #[.slice none 0 0, .int .i64 4]) ∧ Below w.heap.size w w' := by
 obtain ⟨hb, ⟨h1, h2, _⟩ | ⟨_, h2⟩⟩ := h
 ·
  exact absurd ⟨h1, h2⟩ hn
 ·
  exact ⟨h2, hb⟩
theorem OpenPost.yes {w w' : World} {k b : List UInt8} {ts : List (List UInt8)} {e : Ending} (h : OpenPost w k b ts e w') (h16 : 16 ≤ b.length) (hl : b.length ≤ 1048592) (hg : GoodT ts) (hs : soundU k b ts) :
  ∃ A c, e = .returned (.tuple #[.slice A (b.length - 16) c, .int .i64 0]) ∧ NewB w w' A (b.length - 16) c (openU k b) ∧ Below w.heap.size w w' := by
 obtain ⟨hb, ⟨h1, _⟩ | ⟨_, h1, _⟩ | ⟨_, _, _, h1, _⟩ | ⟨_, _, _, _, A, n, c, rfl, hn⟩⟩ := h
 ·
  omega
 ·
  exact absurd ⟨hl, hg⟩ h1
 ·
  exact absurd hs h1
 ·
  have hl2 : n = b.length - 16 := by
   have := hn.1.len
   rw [List.length_map, openU_len] at this
   omega
  subst hl2
  exact ⟨A, c, rfl, hn, hb⟩
theorem OpenPost.bad {w w' : World} {k b : List UInt8} {ts : List (List UInt8)} {e : Ending} (h : OpenPost w k b ts e w') (h16 : 16 ≤ b.length) (hl : b.length ≤ 1048592) (hg : GoodT ts) (hs : ¬ soundU k b ts) :
  e = .returned (.tuple #[.slice none 0 0, .int .i64 5]) ∧ Below w.heap.size w w' := by
 obtain ⟨hb, ⟨h1, _⟩ | ⟨_, h1, _⟩ | ⟨_, _, _, _, h1⟩ | ⟨_, _, _, h1, _⟩⟩ := h
 ·
  omega
 ·
  exact absurd ⟨hl, hg⟩ h1
 ·
  exact ⟨h1, hb⟩
 ·
  exact absurd h1 hs
theorem OpenPost.short {w w' : World} {k b : List UInt8} {ts : List (List UInt8)} {e : Ending} (h : OpenPost w k b ts e w') (h16 : b.length < 16) :
  e = .returned (.tuple #[.slice none 0 0, .int .i64 2]) ∧ Below w.heap.size w w' := by
 obtain ⟨hb, ⟨_, h1⟩ | ⟨h1, _⟩ | ⟨h1, _⟩ | ⟨h1, _⟩⟩ := h
 ·
  exact ⟨h1, hb⟩
 ·
  omega
 ·
  omega
 ·
  omega
theorem OpenPost.long {w w' : World} {k b : List UInt8} {ts : List (List UInt8)} {e : Ending} (h : OpenPost w k b ts e w') (h16 : 16 ≤ b.length) (hn : ¬ (b.length ≤ 1048592 ∧ GoodT ts)) :
  e = .returned (.tuple #[.slice none 0 0, .int .i64 4]) ∧ Below w.heap.size w w' := by
 obtain ⟨hb, ⟨h1, _⟩ | ⟨_, _, h1⟩ | ⟨_, h1, h2, _⟩ | ⟨_, h1, h2, _⟩⟩ := h
 ·
  omega
 ·
  exact ⟨h1, hb⟩
 ·
  exact absurd ⟨h1, h2⟩ hn
 ·
  exact absurd ⟨h1, h2⟩ hn
set_option maxRecDepth 100000 in
set_option maxHeartbeats 2000000 in
theorem RSeal_any (k b : List UInt8) (A : Option Addr) (m c : Nat) (At : Option Addr) (mt ct : Nat) (vs : List Value) (ts : List (List UInt8)) (w : World) (hk : k.length = 32) (hr : Rd w w.heap.size A m (b.map bv)) (hm63 : m ≤ 9223372036854775807)
  (hmt : mt ≤ 1048576) (htx : GoodT ts → (txs ts).length ≤ 536870912) (hv : Rd w w.heap.size At mt vs) (ht : Txs w w.heap.size vs ts) (hK : KTab w) :
  Calls Tryz.prog 21 #[.agg (k.map bv).toArray, .slice A m c, .slice At mt ct] w (SealPost w k b ts) := by
 have Hk := Lib.hid hk
 have Hbl := Lib.hid (show b.length = m by simpa using hr.len)
 have hA4 : ArrB (w.alloc (.cells (k.map bv).toArray 23)) w.heap.size 23 k := ArrB.mk_ _ _ _ _ rfl rfl
 have hB4 := d_al w (.cells (k.map bv).toArray 23)
 have hr4 := d_rd hr hB4
 have hv4 := d_rd hv hB4
 have ht4 := d_txs ht hB4
 clear hk hr hv ht
 obtain ⟨i0, hi0, hz0, hz1, hz2⟩ := info_parts byteInfo
 go_enter Tryz.func21, Tryz.ntmps21
 go_upto_region 1 with (fail)
 generalize w.alloc (.cells (k.map bv).toArray 23) = w4 at *
 by_cases hm : m ≤ 1048576
 rotate_left
 ·
  have hm1 : (1048576 : Int) < (m : Int) := by omega
  go_wp2_with fail
  exact bodyPost_ret (results_tmp2 rfl _ _ _) rfl ⟨hB4, .inr ⟨fun h => hm (by rw [← Hbl.out]; exact h.1), rfl⟩⟩
 have hm1 : ¬ (1048576 : Int) < (m : Int) := by omega
 go_wp2_with ((with_reducible refine tdQ 14 ?_); refine wpList_load_row rfl 23 (.tmp 3) rfl (w.heap.size) rfl 23 (k.map bv).toArray (0, 0) _ (hA4) Tryz.underlying23 rfl (infoK32 Hk.out) ?_)
 refine (RStream_any k b A m c w4 Hk.out hr4 hm (hK.below hB4)).mono ?_
 rintro e w5 ⟨A5, c5, rfl, hown5, hb5⟩
 have hmc5 := own_cap hown5
 have hA5 := hA4.below hb5 hA4.lt
 have hB5 := c_call hB4 hb5
 have hv5 := d_rd hv4 hb5
 have ht5 := d_txs ht4 hb5
 clear hA4 hr4 hv4 ht4
 go_wp2_with ((with_reducible refine tdQ 18 ?_); refine wpList_load_row rfl 23 (.tmp 3) rfl (w.heap.size) rfl 23 (k.map bv).toArray (0, 0) _ (hA5) Tryz.underlying23 rfl (infoK32 Hk.out) ?_)
 refine (RTag_any k (streamU k b) A5 m c5 At mt ct vs ts w5 Hk.out hmc5 (Rd.of_own hown5) hm hmt htx hv5 ht5 (hK.below hB5)).mono ?_
 intro e w6 hP
 by_cases hg : GoodT ts
 rotate_left
 ·
  obtain ⟨rfl, hb6⟩ := hP.no hg
  go_wp2_with fail
  exact bodyPost_ret (results_tmp2 rfl _ _ _) rfl ⟨c_call hB5 hb6, .inr ⟨fun h => hg h.2, rfl⟩⟩
 obtain ⟨g6, c6, hg6, hc6, rfl, hr6, hb6⟩ := hP.yes hg
 have hown6 := own_below hown5 hb6
 have hB6 := c_call hB5 hb6
 have hs4 := hB4.size
 have hs6 := hb6.size
 have hs5 := hb5.size
 have Hse := Lib.hid (show sealU k b ts = streamU k b ++ tagU k (streamU k b) ts from rfl)
 have Htl := Lib.hid (tagU_len k (streamU k b) ts)
 clear hA5 hv5 ht5 hP hown5
 go_wp2_with (at_builtin; refine wpList_append_rd _ rfl (.tmp 26) (.tmp 27) _ rfl (w4.heap.size) 5 i0 _ 1 Tryz.underlying24 hi0 hz0 hz1 hz2 rfl (.slice A5 m c5) m _ rfl hown6 w6.heap.size (some ⟨g6, 0, none⟩) 16 c6 ((tagU k (streamU k b) ts).map bv) rfl hr6 (one_bv _) (by simp only [maxLen]; omega) (by omega) (by omega) ?_; intro v7 w7 hown7 hgr7 hat7)
 obtain ⟨A7, c7, rfl, hc7, _⟩ := own_form hown7
 rw [← List.map_append, ← Hse.out] at hown7
 have hge : ∀ g, (Value.slice A5 m c5).ownBlock = some g → w.heap.size ≤ g := fun g hg => Nat.le_trans hs4 (hown6.lt g hg).1
 exact bodyPost_ret (results_tmp2 rfl _ _ _) rfl ⟨hB6.grown hgr7 hB6.size hge, .inl ⟨by rw [Hbl.out]; exact hm, hg, A7, m + 16, c7, rfl, NewB.of_own hown7 hs4⟩⟩
set_option maxRecDepth 100000 in
set_option maxHeartbeats 2000000 in
theorem ROpen_any (k b : List UInt8) (A : Option Addr) (m c : Nat) (At : Option Addr) (mt ct : Nat) (vs : List Value) (ts : List (List UInt8)) (w : World) (hk : k.length = 32) (hmc : m ≤ c) (hr : Rd w w.heap.size A m (b.map bv)) (hm63 : c ≤ 9223372036854775807)
  (hmt : mt ≤ 1048576) (htx : GoodT ts → (txs ts).length ≤ 536870912) (hv : Rd w w.heap.size At mt vs) (ht : Txs w w.heap.size vs ts) (hK : KTab w) :
  Calls Tryz.prog 24 #[.agg (k.map bv).toArray, .slice A m c, .slice At mt ct] w (OpenPost w k b ts) := by
 have Hk := Lib.hid hk
 have Hbl := Lib.hid (show b.length = m by simpa using hr.len)
 have hA4 : ArrB (w.alloc (.cells (k.map bv).toArray 23)) w.heap.size 23 k := ArrB.mk_ _ _ _ _ rfl rfl
 have hB4 := d_al w (.cells (k.map bv).toArray 23)
 have hr4 := d_rd hr hB4
 have hv4 := d_rd hv hB4
 have ht4 := d_txs ht hB4
 clear hk hr hv ht
 obtain ⟨i0, hi0, hz0, hz1, hz2⟩ := info_parts byteInfo
 go_enter Tryz.func24, Tryz.ntmps24
 go_upto_region 1 with (fail)
 generalize w.alloc (.cells (k.map bv).toArray 23) = w4 at *
 by_cases h16 : m < 16
 ·
  have hm1 : (m : Int) < 16 := by omega
  go_wp2_with fail
  exact bodyPost_ret (results_tmp2 rfl _ _ _) rfl ⟨hB4, .inl ⟨by rw [Hbl.out]; exact h16, rfl⟩⟩
 have hm1 : ¬ (m : Int) < 16 := by omega
 by_cases hm : m ≤ 1048592
 rotate_left
 ·
  have hm2 : (1048592 : Int) < (m : Int) := by omega
  go_wp2_with fail
  exact bodyPost_ret (results_tmp2 rfl _ _ _) rfl ⟨hB4, .inr (.inl ⟨by rw [Hbl.out]; omega, fun h => hm (by rw [← Hbl.out]; exact h.1), rfl⟩)⟩
 have hm2 : ¬ (1048592 : Int) < (m : Int) := by omega
 obtain ⟨h, hh⟩ : ∃ h, m = h + 16 := ⟨m - 16, by omega⟩
 have Hm := Lib.hid hh
 have e1 : (m : Int) - 16 = (h : Int) := by omega
 have e2 : IntKind.i64.wrap (h : Int) = (h : Int) := by rw [IntKind.wrap_i64]; omega
 have k0 : (0 : Int) ≤ (h : Int) := by omega
 have k1 : (h : Int) ≤ (c : Int) := by omega
 have k2 : (h : Int) ≤ (m : Int) := by omega
 have k3 : (m : Int) ≤ (c : Int) := by omega
 have hrh := hr4.take (show h ≤ m by omega)
 have hrt := hr4.cut (show h ≤ m by omega) hmc
 rw [← List.map_take] at hrh
 rw [← List.map_drop, if_neg (show ¬ c = h by omega)] at hrt
 have Hop := Lib.hid (show openU k b = streamU k (b.take h) by unfold openU; rw [Hbl.out, hh, Nat.add_sub_cancel])
 have Hso := Lib.hid (show soundU k b ts ↔ tagU k (b.take h) ts = b.drop h by unfold soundU; rw [Hbl.out, hh, Nat.add_sub_cancel])
 have Hlh := Lib.hid (show (b.take h).length = h by rw [List.length_take, Hbl.out]; omega)
 have hcp := Copy_any A h c (b.take h) w4 (by omega) hrh
 clear hh
 generalize b.take h = bh at *
 generalize b.drop h = bt at *
 go_wp2_with fail
 refine hcp.mono ?_
 rintro e w5 ⟨A5, c5, rfl, hown5, hb5⟩
 have hmc5 := own_cap hown5
 have hA5 := hA4.below hb5 hA4.lt
 have hB5 := c_call hB4 hb5
 have hv5 := d_rd hv4 hb5
 have ht5 := d_txs ht4 hb5
 have hrt5 := d_rd hrt hb5
 have hr5 := Rd.of_own hown5
 clear hA4 hv4 ht4 hrt hrh hr4 hcp hown5
 go_wp2_with ((with_reducible refine tdQ 24 ?_); refine wpList_load_row rfl 23 (.tmp 3) rfl (w.heap.size) rfl 23 (k.map bv).toArray (0, 0) _ (hA5) Tryz.underlying23 rfl (infoK32 Hk.out) ?_)
 refine (RTag_any k bh A5 h c5 At mt ct vs ts w5 Hk.out hmc5 hr5 (by have := Hm.out; omega) hmt htx hv5 ht5 (hK.below hB5)).mono ?_
 intro e w6 hP
 by_cases hg : GoodT ts
 rotate_left
 ·
  obtain ⟨rfl, hb6⟩ := hP.no hg
  go_wp2_with fail
  exact bodyPost_ret (results_tmp2 rfl _ _ _) rfl ⟨c_call hB5 hb6, .inr (.inl ⟨by rw [Hbl.out]; omega, fun h => hg h.2, rfl⟩)⟩
 obtain ⟨g6, c6, hg6, hc6, rfl, hr6, hb6⟩ := hP.yes hg
 have hB6 := c_call hB5 hb6
 have hA6 := hA5.below hb6 hA5.lt
 have hrt6 := d_rd hrt5 hb6
 have hr6h := d_rd hr5 hb6
 clear hA5 hv5 ht5 hP hrt5 hr5
 have hsm := Same_any (some ⟨g6, 0, none⟩) (A.map (·.add h)) 16 c6 (m - h) (c - h) (tagU k bh ts) bt w6 w6.heap.size w6.heap.size hr6 hrt6
 by_cases hso : soundU k b ts
 rotate_left
 ·
  have hsb : sameB (tagU k bh ts) bt = false := by
   rw [sameB, beq_eq_false_iff_ne]
   exact fun h => hso (Hso.out.2 h)
  rw [hsb] at hsm
  go_wp2_with fail
  refine hsm.mono ?_
  rintro e w7 ⟨rfl, rfl⟩
  go_wp2_with fail
  exact bodyPost_ret (results_tmp2 rfl _ _ _) rfl ⟨hB6, .inr (.inr (.inl ⟨by rw [Hbl.out]; omega, by rw [Hbl.out]; exact hm, hg, hso, rfl⟩))⟩
 have hsb : sameB (tagU k bh ts) bt = true := by
  rw [sameB, beq_iff_eq]
  exact Hso.out.1 hso
 rw [hsb] at hsm
 go_wp2_with fail
 refine hsm.mono ?_
 rintro e w7 ⟨rfl, rfl⟩
 go_wp2_with ((with_reducible refine tdQ 40 ?_); refine wpList_load_row rfl 23 (.tmp 3) rfl (w.heap.size) rfl 23 (k.map bv).toArray (0, 0) _ (hA6) Tryz.underlying23 rfl (infoK32 Hk.out) ?_)
 refine (RStream_any k bh A5 h c5 _ Hk.out hr6h (by have := Hm.out; omega) (hK.below hB6)).mono ?_
 rintro e w8 ⟨A8, c8, rfl, hown8, hb8⟩
 go_wp2_with fail
 rw [← Hop.out] at hown8
 exact bodyPost_ret (results_tmp2 rfl _ _ _) rfl ⟨c_call hB6 hb8, .inr (.inr (.inr ⟨by rw [Hbl.out]; omega, by rw [Hbl.out]; exact hm, hg, hso, A8, h, c8, rfl, NewB.of_own hown8 hB6.size⟩))⟩
end Go.Proofs.YtbiijdboolpaeaaGreatDoor
