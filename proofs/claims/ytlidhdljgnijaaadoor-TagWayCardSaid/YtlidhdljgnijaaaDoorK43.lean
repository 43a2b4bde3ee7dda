import Derived.Test.YtlidhdljgnijaaaDoorK41
import Derived.Test.YtlidhdljgnijaaaDoorK22
import Derived.Test.YtlidhdljgnijaaaDoorK42
import Derived.Test.YtlidhdljgnijaaaDoorK04
import Derived.Test.YtlidhdljgnijaaaDoorK38
import Derived.Test.YtlidhdljgnijaaaDoorK40
import Derived.Test.YtlidhdljgnijaaaDoorK34
import Derived.Test.YtlidhdljgnijaaaDoorK36
/-
  CONTRACTS of the program's tag.Sum and tag.Leaf. Printed by gen_tagpf.py.
-/
set_option linter.unusedVariables false
namespace Go.Proofs.YtlidhdljgnijaaaDoor
open Go.RowKit

set_option maxRecDepth 100000 in
set_option maxHeartbeats 4000000 in
theorem PSum13 (kind : Int) (Ai : Option Addr) (ni ci : Nat) (Al : Option Addr) (nl cl : Nat) (ids : List Int) (ll : List (List Int)) (Ap : Option Addr) (np cp : Nat) (ps : List UInt8) (w : World) (h : TgR w w.heap.size Ai ni ci Al nl cl ids ll Ap np cp ps) (hf : fewT ids ll = true) (hK : CTab w) :
    Calls Tryd.prog 13 #[.agg (tgV kind Ai ni ci Al nl cl Ap np cp)] w fun e w' => e = .returned (.tuple #[.agg (keyC (sumG kind ids ll np ps)), .int .i64 (chkG kind ids ll np ps)]) ∧ Below w.heap.size w w' := by
  have hM := ((Ms.nil w).box 28 (tgV kind Ai ni ci Al nl cl Ap np cp)).box 36 (keyC zeroK)
  simp only [World.size_alloc] at hM
  rw [keyC_zero] at hM
  have hsm := fun wx (hb : Below w.heap.size w wx) => PSums13 kind Ai ni ci Al nl cl ids ll Ap np cp ps wx ((h.below hb).more hb.size) hf (hK.below hb)
  have Hlen := Lib.hid (fun hok => sumsT_len (kind := kind) (ids := ids) (ll := ll) (np := np) (ps := ps) hok)
  have hsz := sizeKey zeroK_len
  have hoz := one_keyF zeroK
  rw [keyC_zero] at hsz hoz
  clear h hf hK
  go_enter Tryd.func13, Tryd.ntmps13
  go_upto_region 1 with fail
  try simp only [Act.put]
  obtain ⟨g, hg⟩ : ∃ g, g = w.heap.size := ⟨_, rfl⟩
  rw [← hg] at hM ⊢
  refine wp_gen (fun wx => Ms w wx [(g + 1, 36, #[.int .u8 0, .int .u8 0, .int .u8 0, .int .u8 0, .int .u8 0, .int .u8 0, .int .u8 0, .int .u8 0, .int .u8 0, .int .u8 0, .int .u8 0, .int .u8 0, .int .u8 0, .int .u8 0, .int .u8 0, .int .u8 0, .int .u8 0, .int .u8 0, .int .u8 0, .int .u8 0, .int .u8 0, .int .u8 0, .int .u8 0, .int .u8 0, .int .u8 0, .int .u8 0, .int .u8 0, .int .u8 0, .int .u8 0, .int .u8 0, .int .u8 0, .int .u8 0]), (g, 28, tgV kind Ai ni ci Al nl cl Ap np cp)]) hM ?_
  have Hg := Lib.hid hg
  clear hM hg
  rintro w0 hM0
  go_wp2_with ((with_reducible show wpList _ _ _ (⟨some 7, _, _, _, _, _⟩ :: _) _ _); refine wpList_loadC (by kernel_rfl) 28 (.tmp 1) rfl g rfl 28 (tgV kind Ai ni ci Al nl cl Ap np cp) _ (hM0.get 1 rfl) Tryd.underlying28 rfl tgInfo2 ?_)
  refine (hsm _ hM0.old).mono ?_
  rintro e w1 ⟨hb1, hor⟩
  have hM1 := hM0.call hb1
  clear hM0 hsm
  rcases hor with ⟨hok, he⟩ | ⟨hok, A, c, he, hown⟩
  · subst he
    have HF := Lib.hid (show sumG kind ids ll np ps = zeroK ∧ chkG kind ids ll np ps = 1 from ⟨by rw [sumG, hok]; rfl, by rw [chkG, hok]; rfl⟩)
    have hrow := hM1.get 0 rfl
    have hold := below_setRow hM1.old (show w.heap.size ≤ g + 1 by have := Hg.out; omega) #[.int .u8 0, .int .u8 0, .int .u8 0, .int .u8 0, .int .u8 0, .int .u8 0, .int .u8 0, .int .u8 0, .int .u8 0, .int .u8 0, .int .u8 0, .int .u8 0, .int .u8 0, .int .u8 0, .int .u8 0, .int .u8 0, .int .u8 0, .int .u8 0, .int .u8 0, .int .u8 0, .int .u8 0, .int .u8 0, .int .u8 0, .int .u8 0, .int .u8 0, .int .u8 0, .int .u8 0, .int .u8 0, .int .u8 0, .int .u8 0, .int .u8 0, .int .u8 0]
    clear hb1 hok
    go_wp2_with ((with_reducible show wpList _ _ _ (⟨none, Op.store 36 _ _, _, _, _, _⟩ :: _) _ _); refine wpList_store_row rfl 36 (.tmp 2) (.tmp 13) rfl (g + 1) #[.int .u8 0, .int .u8 0, .int .u8 0, .int .u8 0, .int .u8 0, .int .u8 0, .int .u8 0, .int .u8 0, .int .u8 0, .int .u8 0, .int .u8 0, .int .u8 0, .int .u8 0, .int .u8 0, .int .u8 0, .int .u8 0, .int .u8 0, .int .u8 0, .int .u8 0, .int .u8 0, .int .u8 0, .int .u8 0, .int .u8 0, .int .u8 0, .int .u8 0, .int .u8 0, .int .u8 0, .int .u8 0, .int .u8 0, .int .u8 0, .int .u8 0, .int .u8 0] rfl rfl 36 _ hrow hsz rfl hoz ?_)
    refine bodyPost_ret (results_cell_two rfl _ _ (g + 1) 36 #[.int .u8 0, .int .u8 0, .int .u8 0, .int .u8 0, .int .u8 0, .int .u8 0, .int .u8 0, .int .u8 0, .int .u8 0, .int .u8 0, .int .u8 0, .int .u8 0, .int .u8 0, .int .u8 0, .int .u8 0, .int .u8 0, .int .u8 0, .int .u8 0, .int .u8 0, .int .u8 0, .int .u8 0, .int .u8 0, .int .u8 0, .int .u8 0, .int .u8 0, .int .u8 0, .int .u8 0, .int .u8 0, .int .u8 0, .int .u8 0, .int .u8 0, .int .u8 0] _ rfl (hrow.row _) Tryd.underlying36 rfl hsz) rfl ⟨?_, hold⟩
    rw [HF.out.1, HF.out.2, keyC_zero]
    rfl
  · subst he
    have HF := Lib.hid (show sumG kind ids ll np ps = keyI (sumsT kind ids ll ps np) (np - 1) ∧ chkG kind ids ll np ps = 0 from ⟨by rw [sumG, hok]; rfl, by rw [chkG, hok]; rfl⟩)
    have hnp := okG_np hok
    obtain ⟨lk, hlk⟩ : ∃ l, l + 1 = np := ⟨np - 1, by omega⟩
    have hkr := KyR.of_own hown
    have hcm := Nat.le_trans hkr.hnc hkr.hcm
    unfold maxLen at hcm
    obtain ⟨b, o, rfl, _, hr⟩ := hkr.range (show lk < np by omega)
    rw [show np - 1 = lk by omega] at HF
    have hkl := keyI_len (Hlen.out hok) (show lk < np by omega)
    generalize keyI (sumsT kind ids ll ps np) lk = ky at *
    have hsk := sizeKeyL hkl
    have hsa := sizeKey hkl
    have hone := one_keyF ky
    have zk : IntKind.i64.wrap ((np : Int) - 1) = (lk : Int) := by rw [IntKind.wrap_i64]; omega
    have zl : (lk : Int) < (np : Int) := by omega
    have hrow := hM1.get 0 rfl
    have hold := below_setRow hM1.old (show w.heap.size ≤ g + 1 by have := Hg.out; omega) (keyC ky)
    clear hb1 hok hown hkr hlk
    go_wp2_with (first
      | ((with_reducible show wpList _ _ _ (⟨some 20, _, _, _, _, _⟩ :: _) _ _); refine wpList_load_midG (by kernel_rfl) 36 (.tmp 19) rfl b (o + lk * 32) rfl (keyC ky).toList _ hr Tryd.underlying36 rfl hsk ?_)
      | ((with_reducible show wpList _ _ _ (⟨none, Op.store 36 _ _, _, _, _, _⟩ :: _) _ _); refine wpList_store_row rfl 36 (.tmp 2) (.tmp 20) rfl (g + 1) (keyC ky) rfl rfl 36 _ hrow hsa (by rw [keyC_size, hkl]; rfl) hone ?_))
    refine bodyPost_ret (results_cell_two rfl _ _ (g + 1) 36 (keyC ky) _ rfl (hrow.row _) Tryd.underlying36 rfl hsa) rfl ⟨?_, hold⟩
    rw [HF.out.1, HF.out.2]
    rfl

set_option maxRecDepth 100000 in
theorem PLeafC_any (x : RI) (u : Value) (b : Nat) (p : Int) (w : World) (hb : w.cell? ⟨b, 0, none⟩ = some (.int .i64 p)) (hu : u.oneCell' = true) :
    Calls Tryd.prog 40 #[.agg (riC x u).toArray, .pointer (some ⟨b, 0, none⟩)] w fun e w' => e = .returned (.bool (x.lev == 0 && x.at_ == p)) ∧ Below w.heap.size w w' := by
  have hM := (Ms.nil w).box 68 (riC x u).toArray
  have hold := hM.old
  have c0 := (hM.get 0 rfl).cell (i := 0) (v := .int .i64 x.lev) rfl
  have c1 := (hM.get 0 rfl).cell (i := 1) (v := .int .i64 x.at_) rfl
  have hb1 : (w.alloc (.cells (riC x u).toArray 68)).cell? ⟨b, 0, none⟩ = some (.int .i64 p) := by
    rw [World.cell?_of_block (hold.block b (World.block_lt_of_cell? w _ hb))]
    exact hb
  have Hpost := Lib.hid (show ∀ r w', r = (x.lev == 0 && x.at_ == p) → Below w.heap.size w w' → (fun e w' => e = Ending.returned (Value.bool (x.lev == 0 && x.at_ == p)) ∧ Below w.heap.size w w') (.returned (.bool r)) w' from fun r w' h1 h2 => ⟨by rw [h1], h2⟩)
  generalize (fun e w' => e = Ending.returned (Value.bool (x.lev == 0 && x.at_ == p)) ∧ Below w.heap.size w w') = PO at *
  by_cases h1 : x.lev = 0
  · by_cases h2 : x.at_ = p
    · have hc := Lib.hid (show true = (x.lev == 0 && x.at_ == p) by simp [h1, h2])
      have hbn : (x.at_ == p) = true := by simpa using h2
      clear hM
      go_enter Tryd.func40, Tryd.ntmps40
      go_wp2_with fail
      (first | exact Hpost.out _ _ hc.out hold | exact bodyPost_ret (results_tmp rfl _ _ _) rfl (Hpost.out _ _ hc.out hold))
    · have hc := Lib.hid (show false = (x.lev == 0 && x.at_ == p) by simp [h2])
      have hbn : (x.at_ == p) = false := by simpa using h2
      clear hM
      go_enter Tryd.func40, Tryd.ntmps40
      go_wp2_with fail
      (first | exact Hpost.out _ _ hc.out hold | exact bodyPost_ret (results_tmp rfl _ _ _) rfl (Hpost.out _ _ hc.out hold))
  · have hc := Lib.hid (show false = (x.lev == 0 && x.at_ == p) by simp [h1])
    clear hM
    go_enter Tryd.func40, Tryd.ntmps40
    go_wp2_with fail
    (first | exact Hpost.out _ _ hc.out hold | exact bodyPost_ret (results_tmp rfl _ _ _) rfl (Hpost.out _ _ hc.out hold))

set_option maxRecDepth 100000 in
set_option maxHeartbeats 4000000 in
theorem PIndexC_any (A : Option Addr) (n c : Nat) (ns : List RI) (p : Int) (b B k : Nat) (x : RI) (w : World) (hN : NdR w B A n c ns) (hB : B ≤ w.heap.size) (hb : w.cell? ⟨b, 0, none⟩ = some (.int .i64 p)) (hk : ns[k]? = some x) (hx : leafB p x = true) (hmin : ∀ (i : Nat) (y : RI), i < k → ns[i]? = some y → leafB p y = false) (hn : n ≤ 100000) :
    Calls Tryd.prog 41 #[.slice A n c, .func (.func 40) #[] #[.pointer (some ⟨b, 0, none⟩)]] w fun e w' => e = .returned (.int .i64 (k : Nat)) ∧ Below w.heap.size w w' := by
  have Hmin := Lib.hid hmin
  have Hn := Lib.hid hN.len
  have hkn : k < n := by rw [← hN.len]; exact (List.getElem?_eq_some_iff.1 hk).1
  have hblt := World.block_lt_of_cell? w _ hb
  have Hpost := Lib.hid (show ∀ w', Below w.heap.size w w' → (fun e w' => e = Ending.returned (Value.int .i64 (k : Nat)) ∧ Below w.heap.size w w') (.returned (.int .i64 (k : Nat))) w' from fun w' h => ⟨rfl, h⟩)
  generalize (fun e w' => e = Ending.returned (Value.int .i64 (k : Nat)) ∧ Below w.heap.size w w') = PO at *
  clear hmin
  go_enter Tryd.func41, Tryd.ntmps41
  go_wp2_with fail
  go_loopw [8] (fun v8 wr => ∃ j : Nat, j ≤ k ∧ v8 = .int .i64 (j : Int) ∧ Below w.heap.size w wr) (fun v8 _ => n - (intOf v8).toNat)
  case atStart => exact ⟨0, by omega, rfl, Below.refl _ _⟩
  case round =>
    obtain ⟨j, hj, rfl, hold⟩ := hrel
    have hjn : j < n := by omega
    have hjx : j < ns.length := by rw [Hn.out]; exact hjn
    have hy : ns[j]? = some ns[j] := List.getElem?_eq_getElem hjx
    obtain ⟨g, o, Au, cu, rfl, hg, hrg, _, _, _⟩ := (hN.below (hold.mono hB)).range hy
    have hlf := PLeafC_any ns[j] (.slice Au ns[j].kids.length cu) b p wr (by rw [World.cell?_of_block (hold.block b hblt)]; exact hb) rfl
    have Hj := Lib.hid (show j < k → leafB p ns[j] = false from fun h => Hmin.out j _ h hy)
    have Hk := Lib.hid (show j = k → leafB p ns[j] = true from fun h => by
      subst h
      rw [hy] at hk
      rw [Option.some.inj hk]
      exact hx)
    generalize ns[j] = y at *
    rw [← leafB] at hlf
    have zj : (j : Int) < (n : Int) := by omega
    go_wp2_with ((with_reducible show wpList _ _ _ (⟨some 15, _, _, _, _, _⟩ :: _) _ _); refine wpList_load_midG (by kernel_rfl) 68 (.tmp 14) rfl g (o + j * 7) rfl (riC y (.slice Au y.kids.length cu)) _ hrg Tryd.underlying68 rfl rnInfo2 ?_)
    refine hlf.mono ?_
    rintro e w2 ⟨rfl, hb2⟩
    have hold2 := hold.trans (hb2.mono hold.size)
    by_cases hjk : j = k
    · rw [Hk.out hjk]
      subst hjk
      clear hlf hrg
      go_wp2_with fail
      (first | exact Hpost.out _ hold2 | exact bodyPost_ret (results_tmp rfl _ _ _) rfl (Hpost.out _ hold2))
    · rw [Hj.out (by omega)]
      clear hlf hrg
      go_wp2_with fail
      go_roundw
      case rel => exact ⟨j + 1, by omega, by go_num, hold2⟩
      case measure => simp [intOf]; omega

set_option maxRecDepth 100000 in
set_option maxHeartbeats 4000000 in
theorem PLeaf13 (kind : Int) (Ai : Option Addr) (ni ci : Nat) (Al : Option Addr) (nl cl : Nat) (ids : List Int) (ll : List (List Int)) (Ap : Option Addr) (np cp : Nat) (ps : List UInt8) (id : Int) (w : World) (h : TgR w w.heap.size Ai ni ci Al nl cl ids ll Ap np cp ps) (hf : fewT ids ll = true) :
    Calls Tryd.prog 15 #[.agg (tgV kind Ai ni ci Al nl cl Ap np cp), .int .i64 id] w fun e w' => e = .returned (.tuple #[.int .i64 (leafG kind ids ll np ps id), .int .i64 (leafE kind ids ll np ps id)]) ∧ Below w.heap.size w w' := by
  have hM := (Ms.nil w).box 28 (tgV kind Ai ni ci Al nl cl Ap np cp)
  have hnf := fun wx (hb : Below w.heap.size w wx) => PNodesOf kind Ai ni ci Al nl cl ids ll Ap np cp ps wx ((h.below hb).more hb.size) hf
  have hfd := fun wx (hb : Below w.heap.size w wx) => PFind_any Ai ni ci Al nl cl ids id wx h.sh.hni h.sh.hci h.sh.hmi ((h.sh.hids.below hb).more hb.size)
  have hmf : ∀ (fn : Fn) (first cap : Array Value) (w : World), (Instr.makeFunc fn first cap).run Tryd.prog w = .ok (.func fn first cap) w := fun _ _ _ _ => rfl
  clear h
  go_enter Tryd.func15, Tryd.ntmps15
  go_upto_region 1 with fail
  try simp only [Act.put]
  obtain ⟨g, hg⟩ : ∃ g, g = w.heap.size := ⟨_, rfl⟩
  rw [← hg] at hM ⊢
  refine wp_gen (fun wx => Ms w wx [(g, 28, tgV kind Ai ni ci Al nl cl Ap np cp)]) hM ?_
  clear hM hg
  rintro w0 hM0
  go_wp2_with ((with_reducible show wpList _ _ _ (⟨some 12, _, _, _, _, _⟩ :: _) _ _); refine wpList_loadC (by kernel_rfl) 28 (.tmp 2) rfl g rfl 28 (tgV kind Ai ni ci Al nl cl Ap np cp) _ (hM0.get 0 rfl) Tryd.underlying28 rfl tgInfo2 ?_)
  refine (hnf _ hM0.old).mono ?_
  rintro e w1 ⟨hb1, ⟨hok, rfl⟩ | ⟨hok, An, cn, he, hN⟩⟩
  · have HF := Lib.hid (show leafG kind ids ll np ps id = 0 ∧ leafE kind ids ll np ps id = 1 from ⟨by rw [leafG, if_neg (fun h => by rw [hok] at h; cases h.1)], by rw [leafE, if_neg (by rw [hok]; simp)]⟩)
    have hold := hM0.old.trans (hb1.mono hM0.old.size)
    clear hM0 hnf hfd hb1
    go_wp2_with fail
    refine bodyPost_ret (results_tmp2 rfl _ _ _) rfl ⟨?_, hold⟩
    rw [HF.out.1, HF.out.2]
    rfl
  obtain ⟨nn, hnn⟩ : ∃ nn, nn = (nodesI kind ids ll).length := ⟨_, rfl⟩
  rw [← hnn] at he hN
  subst he
  have hM1 := hM0.call hb1
  have hold := hM1.old
  have HF := Lib.hid (show (id ∈ ids → leafG kind ids ll np ps id = (((pathI kind ids ll id).getD 0 0 : Nat) : Int) ∧ leafE kind ids ll np ps id = 0) ∧ (id ∉ ids → leafG kind ids ll np ps id = 0 ∧ leafE kind ids ll np ps id = 6) from
    ⟨fun hi => ⟨by rw [leafG, if_pos ⟨hok, hi⟩], by rw [leafE, if_pos hok, if_pos hi]⟩, fun hi => ⟨by rw [leafG, if_neg (fun h => hi h.2)], by rw [leafE, if_pos hok, if_neg hi]⟩⟩)
  have Hmb := Lib.hid (okG_may hok)
  have hn2 : nn ≤ 2000 := by have := nodesI_le kind ids ll; omega
  have hr1 := tg_sh (hM1.get 0 rfl)
  obtain ⟨p, hp⟩ : ∃ p, p = belT ids id := ⟨_, rfl⟩
  obtain ⟨ti, hti⟩ : ∃ ti, ti = isT ids id := ⟨_, rfl⟩
  rw [← hp, ← hti] at hfd
  have Hp := Lib.hid hp
  have Hti := Lib.hid hti
  have Hnn := Lib.hid hnn
  clear hp hti hnn hM0 hb1 hnf hok
  go_upto_region 4 with fail
  go_wp2_with ((with_reducible show wpList _ _ _ (⟨some 21, _, _, _, _, _⟩ :: _) _ _); refine wpList_load_midG (by kernel_rfl) 25 (.tmp 20) rfl g 1 rfl (shV Ai ni ci Al nl cl).toList _ hr1 Tryd.underlying25 rfl shapeInfo2 ?_)
  refine (hfd _ hold).mono ?_
  rintro e w2 ⟨rfl, hb2⟩
  have hold2 := hold.trans (hb2.mono hold.size)
  have hN2 := (hN.below hb2).more hb2.size
  clear hM1 hr1 hold hb2 hN hfd
  have hMb := (Ms.nil w2).box 3 #[.int .i64 (p : Int)]
  cases ti with
  | false =>
    have hni : id ∉ ids := fun hi => by have := isT_mem.2 hi; rw [← Hti.out] at this; cases this
    have HF2 := Lib.hid (HF.out.2 hni)
    have hold3 : Below w.heap.size w _ := hold2.trans (hMb.old.mono hold2.size)
    clear hN2 hMb
    go_wp2_with fail
    refine bodyPost_ret (results_tmp2 rfl _ _ _) rfl ⟨?_, hold3⟩
    rw [HF2.out.1, HF2.out.2]
    rfl
  | true =>
    have hi : id ∈ ids := isT_mem.1 Hti.out.symm
    have HF2 := Lib.hid (HF.out.1 hi)
    have h0 : 0 < ids.length := List.length_pos_of_mem hi
    have hT := top_facts Hmb.out h0
    obtain ⟨hpa, hpl⟩ := path_top hT Hmb.out Hti.out.symm
    rw [← Hp.out] at hpa hpl
    obtain ⟨a, t, x, e1, e2, e3, e4, e5, e6⟩ := (way_top hT hpl).first
    have Hk := Lib.hid (show ((pathI kind ids ll id).getD 0 0) = a by rw [hpa, e1]; rfl)
    have hnod := hT.nodes
    rw [hnod] at hN2
    have hN3 := (hN2.below hMb.old).more hMb.old.size
    have hix := PIndexC_any An nn cn _ (p : Int) w2.heap.size _ a x.i _ hN3 (Nat.le_refl _) ((hMb.get 0 rfl).cell (i := 0) (v := .int .i64 (p : Int)) rfl) (by rw [List.getElem?_map, e2]; rfl) (by simp [leafB, RN.i, e3, e4]) (fun i y hi hy => by
      rw [List.getElem?_map] at hy
      obtain ⟨z, hz, rfl⟩ := Option.map_eq_some_iff.1 hy
      have := e6 i z hi hz
      simp only [leafB, RN.i, Bool.and_eq_false_iff, beq_eq_false_iff_ne]
      omega) (by omega)
    have hold3 : Below w.heap.size w _ := hold2.trans (hMb.old.mono hold2.size)
    clear hN2 hN3 hMb hT hpa hpl e1 e2 e3 e4 e5 e6 hnod h0 hi
    go_wp2_with fail
    refine hix.mono ?_
    rintro e w3 ⟨rfl, hb3⟩
    have hold4 := hold3.trans (hb3.mono hold3.size)
    clear hix hmf hold3 hb3
    go_wp2_with fail
    refine bodyPost_ret (results_tmp2 rfl _ _ _) rfl ⟨?_, hold4⟩
    rw [HF2.out.1, HF2.out.2, Hk.out]
    rfl

end Go.Proofs.YtlidhdljgnijaaaDoor

/-
  CONTRACTS of the program's tag.putList, tag.putShape and tag.Write.
-/
set_option linter.unusedVariables false
namespace Go.Proofs.YtlidhdljgnijaaaDoor
open Go.RowKit

/-- bytes of the call's own are told -/
def BytesPost (w : World) (l : List UInt8) (e : Ending) (w' : World) : Prop :=
  Below w.heap.size w w' ∧ ∃ A n c, e = .returned (.tuple #[.slice A n c, .int .i64 0]) ∧ n ≤ c ∧ n = l.length ∧ w'.ownsRow w.heap.size 5 1 (.slice A n c) n (l.map bv)
theorem NumPost.bytes {w w0 w' : World} {l : List UInt8} {d : Int} {ns : List Nat} {e : Ending} (h : NumPost w0 l d ns e w') (hg : Good d ns) (hb : Below w.heap.size w w0) : BytesPost w (l ++ nums d.toNat ns) e w' := by
  obtain ⟨A, n, c, h1, h2, h3, h4, h5⟩ := h.yes hg
  exact ⟨hb.trans (h5.mono hb.size), A, n, c, h1, h3, h4.out, own_lower h2 hb.size⟩

set_option maxRecDepth 100000 in
set_option maxHeartbeats 4000000 in
theorem PPutList13 (A : Option Addr) (k c : Nat) (l : List UInt8) (mw wd : Nat) (Ai : Option Addr) (ni ci : Nat) (xs : List Nat) (w : World) (hkc : k ≤ c) (hk : k ≤ 1000000) (hr : Rd w w.heap.size A k (l.map bv)) (hx : Rd w w.heap.size Ai ni ((xs.map (fun x : Nat => (x : Int))).map iv)) (hni : ni ≤ 1100) (hci : ci ≤ maxLen) (hnc : ni ≤ ci)
    (hm1 : 1 ≤ mw) (hm2 : mw ≤ 8) (hw1 : 1 ≤ wd) (hw2 : wd ≤ 8) (hfit : ni < 256 ^ mw) (hall : ∀ x ∈ xs, x < 256 ^ wd) (h63 : ∀ x ∈ xs, x < 9223372036854775808) :
    Calls Tryd.prog 73 #[.slice A k c, .int .i64 (mw : Int), .int .i64 (wd : Int), .slice Ai ni ci] w (BytesPost w (l ++ (be mw ni ++ nums wd xs))) := by
  obtain ⟨iq, hiq, hzq, hsq, hbq⟩ := info_parts quadInfo
  have hxl : xs.length = ni := by simpa using hx.len
  have hll : l.length = k := by simpa using hr.len
  have Hxl := Lib.hid hxl
  have Hll := Lib.hid hll
  have H63 := Lib.hid h63
  have Hall := Lib.hid hall
  clear hxl hll h63 hall
  have Hpost := Lib.hid (show ∀ e w', BytesPost w (l ++ be mw ni ++ nums wd xs) e w' → BytesPost w (l ++ (be mw ni ++ nums wd xs)) e w' from fun e w' h => by rw [← List.append_assoc]; exact h)
  generalize BytesPost w (l ++ (be mw ni ++ nums wd xs)) = PO at *
  have hcm := hci
  unfold maxLen at hcm
  have hal := d_al w (.cells #[.int .u64 (ni : Int)] 57)
  have hz1 : (w.alloc (.cells #[.int .u64 (ni : Int)] 57)).heap.size = w.heap.size + 1 := by simp
  have hnum := Num_any A k c l (mw : Int) (some ⟨w.heap.size, 0, none⟩) 1 1 [ni] (w.alloc (.cells #[.int .u64 (ni : Int)] 57)) (by omega) (by omega) ((hr.below hal).more hal.size) (by rw [hz1]; exact Rd.mk_ _ _ _ rfl (by omega) rfl rfl) (fun i x hx => by
    cases i with
    | zero => simp at hx; omega
    | succ i => simp at hx)
  have hgd : Good (mw : Int) [ni] := ⟨by omega, by omega, fun i x hx => by
    cases i with
    | zero => simp at hx; subst hx; simpa using hfit
    | succ i => simp at hx⟩
  have zn : IntKind.u64.wrap (ni : Int) = (ni : Int) := by rw [IntKind.wrap_u64]; omega
  have hxb := fun wx (hb : Below w.heap.size w wx) => hx.below hb
  clear hr hx hfit hz1
  go_enter Tryd.func73, Tryd.ntmps73
  go_wp2_with fail
  refine hnum.mono ?_
  intro e w1 hp
  obtain ⟨hb1, A1, n1, c1, he, hnc1, hn1, hown1⟩ := NumPost.bytes (w := w) hp hgd hal
  subst he
  have Hn1 := Lib.hid (show n1 = k + mw by rw [hn1, List.length_append, Hll.out]; simp [nums, be_length])
  have Hl1 := Lib.hid (show l ++ nums (mw : Int).toNat [ni] = l ++ be mw ni by simp [nums])
  rw [Hl1.out] at hown1
  clear hnum hp hal hn1
  go_upto_region 5 with (at_make; refine wpList_make_own _ rfl _ _ 109 rfl w1.heap.size 57 iq _ 1 Tryd.underlying109 hiq hzq hsq _ _ _ ni rfl rfl (by simp) (by rw [hbq]; omega) (by simp only [maxLen]; omega) (Nat.le_refl _) ?_; intro w2 hown2 hgr2)
  try simp only [Act.put]
  have hb2 : Below w1.heap.size w1 w2 := (Below.refl _ _).grown hgr2 (Nat.le_refl _) (by simp)
  have hw1s := hb1.size
  clear hgr2
  go_wp2_with fail
  go_loopw [11, 13, 32] (fun v11 _ v32 wr => ∃ (j : Nat) (B : Option Addr) (d : Nat), j ≤ ni ∧ v32 = .int .i64 (j : Int) ∧ v11 = .slice B j d ∧ wr.ownsRow w1.heap.size 57 1 (.slice B j d) j ((xs.take j).map qv) ∧ Below w1.heap.size w1 wr) (fun _ _ v32 _ => ni - (intOf v32).toNat)
  case atStart => exact ⟨0, _, _, by omega, rfl, rfl, hown2, hb2⟩
  case round =>
    clear hown2 hb2
    obtain ⟨j, B, d, hj, rfl, rfl, hown, hb⟩ := hrel
    by_cases hjn : j < ni
    · have hjl : j < xs.length := by rw [Hxl.out]; exact hjn
      obtain ⟨bi, oi, y, rfl, hbi, hy, hcy⟩ := rdI_num (hxb wr (hb1.trans (hb.mono hw1s))) hjn
      have hy2 : xs[j]? = some xs[j] := List.getElem?_eq_getElem hjl
      obtain rfl : y = ((xs[j] : Nat) : Int) := by
        rw [List.getElem?_map, hy2] at hy
        exact (Option.some.inj hy).symm
      have hlt := H63.out _ (List.getElem_mem hjl)
      have Htk := Lib.hid (show (xs.take (j + 1)).map qv = (xs.take j).map qv ++ [qv xs[j]] by rw [List.take_succ_eq_append_getElem hjl, List.map_append]; rfl)
      generalize xs[j] = x at *
      have zx : IntKind.u64.wrap (x : Int) = (x : Int) := by rw [IntKind.wrap_u64]; omega
      have zj : (j : Int) < (ni : Int) := by omega
      have hal := d_al wr (.cells #[.int .u64 (x : Int)] 57)
      have hown3 := own_below hown hal
      have hz3 : (wr.alloc (.cells #[.int .u64 (x : Int)] 57)).heap.size = wr.heap.size + 1 := by simp
      have hwb := hb.size
      have hone : ∀ u ∈ [Value.int .u64 (x : Int)], u.oneCell' = true := by intro u hu; simp at hu; subst hu; rfl
      have hba := hb.trans (hal.mono hwb)
      clear hy hy2 hown hlt
      go_wp2_with (at_builtin; refine wpList_append_rd _ rfl (.tmp 36) (.tmp 39) _ rfl w1.heap.size 57 iq _ 8 Tryd.underlying109 hiq hzq hsq hbq rfl (.slice B j d) j _ rfl hown3 (wr.heap.size + 1) (some ⟨wr.heap.size, 0, none⟩) 1 1 [.int .u64 (x : Int)] rfl (Rd.mk_ _ _ _ rfl (by omega) rfl rfl) hone (by simp only [maxLen]; omega) (by omega) (by rw [hz3]; omega) ?_; intro v4 w4 hown4 hgr4 hat4; obtain ⟨B4, d4, rfl, _, _⟩ := own_form hown4)
      go_roundw
      case rel => exact ⟨j + 1, B4, d4, by omega, by go_num, rfl, by rw [Htk.out]; exact hown4, hba.grown hgr4 (Nat.le_trans hwb hal.size) (fun q hq => (hown3.lt q hq).1)⟩
      case measure => simp [intOf]; omega
    · obtain rfl : j = ni := by omega
      rw [List.take_of_length_le (by rw [Hxl.out]; exact Nat.le_refl _)] at hown
      have hold := hb1.trans (hb.mono hw1s)
      have hnum2 := Num_any A1 n1 c1 (l ++ be mw j) (wd : Int) B j d xs wr (by have := Hn1.out; omega) (by omega) (((Rd.of_own hown1).below hb).more hb.size) (Rd.of_own hown) (fun i x hx => by have := H63.out x (List.mem_of_getElem? hx); omega)
      have hgd2 : Good (wd : Int) xs := ⟨by omega, by omega, fun i x hx => by have := Hall.out x (List.mem_of_getElem? hx); simpa using this⟩
      clear hown hown1 hb
      go_wp2_with fail
      refine hnum2.mono ?_
      intro e w5 hp
      have HB := NumPost.bytes (w := w) hp hgd2 hold
      have HF := Lib.hid (Hpost.out e w5 (by simpa using HB))
      obtain ⟨hq1, A5, n5, c5, he, hq2, hq3, hq4⟩ := HB
      subst he
      clear hnum2 hp hq1 hq2 hq3 hq4
      go_wp2_with fail
      exact HF.out

/-- a shape's text -/
def shapeT (ids : List Int) (ll : List (List Int)) : List UInt8 := (be 2 ids.length ++ ids.flatMap idB) ++ (UInt8.ofNat ll.length :: ll.flatMap lvB)
theorem castNat : ∀ {l : List Int}, (∀ x ∈ l, 0 ≤ x) → (l.map Int.toNat).map (fun x : Nat => (x : Int)) = l
  | [], _ => rfl
  | x :: l, h => by
    rw [List.map_cons, List.map_cons, castNat (fun y hy => h y (by simp [hy]))]
    congr 1
    exact Int.toNat_of_nonneg (h x (by simp))
theorem nums4 (l : List Int) : nums 4 (l.map Int.toNat) = l.flatMap idB := by
  rw [nums, List.map_map, List.flatMap]
  rfl
theorem nums1 : ∀ (l : List Int), nums 1 (l.map Int.toNat) = l.map byteU
  | [] => rfl
  | x :: l => by
    have := nums1 l
    rw [nums] at this ⊢
    rw [List.map_cons, List.map_cons, List.flatten_cons, List.map_cons, this]
    rfl
theorem shapeT_len {ids : List Int} {ll : List (List Int)} (h1 : ids.length ≤ 1100) (h2 : ll.length ≤ 20) (h3 : ∀ l ∈ ll, l.length ≤ 1100) : (shapeT ids ll).length ≤ 100000 := by
  have e1 := flat_le (f := idB) (m := 4) ids (fun x _ => by rw [idB, be_length]; exact Nat.le_refl _)
  have e2 := flat_le (f := lvB) (m := 1102) ll (fun x hx => by
    rw [lvB, List.length_append, be_length, List.length_map]
    have := h3 x hx
    omega)
  rw [shapeT, List.length_append, List.length_append, be_length, List.length_cons]
  have : 1102 * ll.length ≤ 1102 * 20 := Nat.mul_le_mul_left _ h2
  omega

set_option maxRecDepth 100000 in
set_option maxHeartbeats 4000000 in
theorem PPutShape13 (A : Option Addr) (k c : Nat) (l : List UInt8) (Ai : Option Addr) (ni ci : Nat) (Al : Option Addr) (nl cl : Nat) (ids : List Int) (ll : List (List Int)) (w : World) (h : ShR w w.heap.size Ai ni ci Al nl cl ids ll) (hkc : k ≤ c) (hk : k ≤ 100000) (hr : Rd w w.heap.size A k (l.map bv))
    (h1 : ids.length ≤ 1100) (h2 : ll.length ≤ 20) (h3 : ∀ l ∈ ll, l.length ≤ 1100) (h4 : ∀ x ∈ ids, 0 ≤ x ∧ x ≤ 1048576) (h5 : ∀ l ∈ ll, ∀ x ∈ l, x = 2 ∨ x = 3) :
    Calls Tryd.prog 44 #[.slice A k c, .agg (shV Ai ni ci Al nl cl)] w (BytesPost w (l ++ shapeT ids ll)) := by
  have hM := (Ms.nil w).box 25 (shV Ai ni ci Al nl cl)
  have hll : l.length = k := by simpa using hr.len
  have Hll := Lib.hid hll
  have hni := h.hni
  have hnl := h.hnl
  have Hni := Lib.hid hni
  have Hnl := Lib.hid hnl
  have hn1 : ni ≤ 1100 := by omega
  have hn2 : nl ≤ 20 := by omega
  have H3 := Lib.hid h3
  have H5 := Lib.hid h5
  have Hlen := Lib.hid (shapeT_len h1 h2 h3)
  have hp1 := fun wx (hb : Below w.heap.size w wx) => PPutList13 A k c l 2 4 Ai ni ci (ids.map Int.toNat) wx hkc (by omega) ((hr.below hb).more hb.size) (by rw [castNat (fun x hx => (h4 x hx).1)]; exact (h.hids.below hb).more hb.size) hn1 h.hmi h.hci (by omega) (by omega) (by omega) (by omega) (by omega) (fun x hx => by
    obtain ⟨y, hy, rfl⟩ := List.mem_map.1 hx
    have := h4 y hy
    omega) (fun x hx => by
    obtain ⟨y, hy, rfl⟩ := List.mem_map.1 hx
    have := h4 y hy
    omega)
  rw [nums4] at hp1
  have hlb := fun wx (hb : Below w.heap.size w wx) => h.below hb
  have hcl := h.hcl
  have hml := h.hml
  unfold maxLen at hml
  have Hpost := Lib.hid (show ∀ e w', BytesPost w (l ++ shapeT ids ll) e w' → BytesPost w (l ++ shapeT ids ll) e w' from fun _ _ h => h)
  generalize hPO : BytesPost w (l ++ shapeT ids ll) = PO at *
  have HPO := Lib.hid hPO
  clear hPO hll hni hnl hr h h1 h2 h3 h4 h5
  go_enter Tryd.func44, Tryd.ntmps44
  go_upto_region 1 with fail
  try simp only [Act.put]
  obtain ⟨g, hg⟩ : ∃ g, g = w.heap.size := ⟨_, rfl⟩
  rw [← hg] at hM ⊢
  refine wp_gen (fun wx => Ms w wx [(g, 25, shV Ai ni ci Al nl cl)]) hM ?_
  clear hM hg
  rintro w0 hM0
  have c0 := (hM0.get 0 rfl).cell (i := 0) (v := .slice Ai ni ci) rfl
  go_wp2_with fail
  refine (hp1 _ hM0.old).mono ?_
  rintro e w1 ⟨hb1, A1, n1, c1, he, hnc1, hn1e, hown1⟩
  subst he
  have hM1 := hM0.call hb1
  have hold := hM1.old
  have hw1 := hold.size
  have ho1 := own_lower hown1 hM0.old.size
  have Hn1 := Lib.hid hn1e
  have hnb : n1 ≤ 200000 := by
    have h1 := Hlen.out
    rw [shapeT, List.length_append, List.length_append] at h1
    rw [hn1e, List.length_append, List.length_append, Hll.out]
    have := Hni.out
    rw [be_length] at h1 ⊢
    omega
  have c1' := (hM1.get 0 rfl).cell (i := 1) (v := .slice Al nl cl) rfl
  have zn : IntKind.u64.wrap (nl : Int) = (nl : Int) := by rw [IntKind.wrap_u64]; omega
  have hal := d_al w1 (.cells #[.int .u64 (nl : Int)] 57)
  have hz1 : (w1.alloc (.cells #[.int .u64 (nl : Int)] 57)).heap.size = w1.heap.size + 1 := by simp
  have hnum := Num_any A1 n1 c1 _ 1 (some ⟨w1.heap.size, 0, none⟩) 1 1 [nl] (w1.alloc (.cells #[.int .u64 (nl : Int)] 57)) (by omega) (by omega) (((Rd.of_own hown1).below hal).more hal.size) (by rw [hz1]; exact Rd.mk_ _ _ _ rfl (by omega) rfl rfl) (fun i x hx => by
    cases i with
    | zero => simp at hx; omega
    | succ i => simp at hx)
  have hgd : Good 1 [nl] := ⟨by omega, by omega, fun i x hx => by
    cases i with
    | zero => simp at hx; rw [show ((1 : Int).toNat) = 1 from rfl]; omega
    | succ i => simp at hx⟩
  have hMa := hM1.call hal
  clear hM0 hM1 hb1 hown1 hp1 hn1e c0 hz1
  go_wp2_with fail
  refine hnum.mono ?_
  intro e w2 hp
  obtain ⟨hb2, A2, n2, c2, he, hnc2, hn2e, hown2⟩ := NumPost.bytes (w := w) hp hgd hMa.old
  subst he
  have hM2 := hMa.call (show Below (w1.alloc (.cells #[.int .u64 (nl : Int)] 57)).heap.size (w1.alloc (.cells #[.int .u64 (nl : Int)] 57)) w2 from hp.1)
  have c2' := (hM2.get 0 rfl).cell (i := 1) (v := .slice Al nl cl) rfl
  have HT2 := Lib.hid (show l ++ (be 2 ni ++ ids.flatMap idB) ++ nums (1 : Int).toNat [nl] = l ++ ((be 2 ids.length ++ ids.flatMap idB) ++ (UInt8.ofNat ll.length :: ([] : List (List Int)).flatMap lvB)) by
    rw [Hni.out, Hnl.out, List.append_assoc]
    rfl)
  rw [HT2.out] at hown2 hn2e
  have HN2 := Lib.hid hn2e
  clear hnum hp hal hMa hM2 c1' hn2e ho1
  go_wp2_with fail
  go_loopw [0, 6, 8, 35] (fun v0 _ _ v35 wr => ∃ (j n : Nat) (A : Option Addr) (c : Nat), j ≤ nl ∧ v35 = .int .i64 (j : Int) ∧ v0 = .slice A n c ∧ n ≤ c ∧ Hid (n = (l ++ ((be 2 ids.length ++ ids.flatMap idB) ++ (UInt8.ofNat ll.length :: (ll.take j).flatMap lvB))).length) ∧ wr.ownsRow w.heap.size 5 1 (.slice A n c) n ((l ++ ((be 2 ids.length ++ ids.flatMap idB) ++ (UInt8.ofNat ll.length :: (ll.take j).flatMap lvB))).map bv) ∧ Below w.heap.size w wr) (fun _ _ _ v35 _ => nl - (intOf v35).toNat)
  case atStart => exact ⟨0, n2, A2, c2, by omega, rfl, rfl, hnc2, HN2, hown2, hb2⟩
  case round =>
    clear hown2 hb2
    obtain ⟨j, n, A, c, hj, rfl, rfl, hnc, Hn, hown, hb⟩ := hrel
    by_cases hjn : j < nl
    · have hjl : j < ll.length := by rw [Hnl.out]; exact hjn
      have hS := hlb wr hb
      obtain ⟨vs, hrv, hlv⟩ := hS.lvs
      obtain ⟨b, o, rfl, hbb, hc⟩ := hrv.pos (show 0 < nl by omega)
      obtain ⟨A3, c3, hv3, hc3, hm3, hr3⟩ := hlv.get hjl
      have hcell := hc j _ hv3
      have zj : (j : Int) < (nl : Int) := by omega
      have hl3 := H3.out _ (List.getElem_mem hjl)
      have h23 := H5.out _ (List.getElem_mem hjl)
      have Htk := Lib.hid (show (ll.take (j + 1)).flatMap lvB = (ll.take j).flatMap lvB ++ lvB ll[j] by rw [List.take_succ_eq_append_getElem hjl, List.flatMap_append]; simp)
      have hnb2 : n ≤ 300000 := by
        have h1 := Hlen.out
        have h2 := Hn.out
        have h3 : ((ll.take j).flatMap lvB).length ≤ (ll.flatMap lvB).length := by
          conv => rhs; rw [← List.take_append_drop j ll, List.flatMap_append, List.length_append]
          omega
        rw [shapeT, List.length_append, List.length_append, List.length_cons] at h1
        rw [List.length_append, List.length_append, List.length_append, List.length_cons] at h2
        have := Hll.out
        omega
      generalize ll[j] = y at *
      have hpl := PPutList13 A n c _ 2 1 A3 y.length c3 (y.map Int.toNat) wr hnc (by omega) (Rd.of_own hown) (by rw [castNat (fun x hx => by rcases h23 x hx with h | h <;> omega)]; exact hr3.more hb.size) (by omega) hm3 hc3 (by omega) (by omega) (by omega) (by omega) (by omega) (fun x hx => by
        obtain ⟨z, hz, rfl⟩ := List.mem_map.1 hx
        rcases h23 z hz with rfl | rfl <;> decide) (fun x hx => by
        obtain ⟨z, hz, rfl⟩ := List.mem_map.1 hx
        rcases h23 z hz with rfl | rfl <;> decide)
      rw [nums1] at hpl
      have HT := Lib.hid (show (l ++ ((be 2 ids.length ++ ids.flatMap idB) ++ (UInt8.ofNat ll.length :: (ll.take j).flatMap lvB))) ++ (be 2 y.length ++ y.map byteU) = l ++ ((be 2 ids.length ++ ids.flatMap idB) ++ (UInt8.ofNat ll.length :: (ll.take (j + 1)).flatMap lvB)) by
        rw [Htk.out, lvB]
        simp only [List.append_assoc, List.cons_append])
      rw [HT.out] at hpl
      clear hS hrv hlv hc hv3 hr3 hown h23
      go_wp2_with fail
      refine hpl.mono ?_
      rintro e w4 ⟨hb4, A4, n4, c4, he, hnc4, hn4, hown4⟩
      subst he
      have HN4 := Lib.hid hn4
      have hbb4 := hb.trans (hb4.mono hb.size)
      have ho4 := own_lower hown4 hb.size
      clear hpl hown4 hb4 hn4 hb
      go_wp2_with fail
      go_roundw
      case rel => exact ⟨j + 1, n4, A4, c4, by omega, by go_num, rfl, hnc4, HN4, ho4, hbb4⟩
      case measure => simp [intOf]; omega
    · obtain rfl : j = nl := by omega
      have HF := Lib.hid (show PO (.returned (.tuple #[.slice A n c, .int .i64 0])) wr by
        rw [← HPO.out]
        refine ⟨hb, A, n, c, rfl, hnc, ?_, ?_⟩
        · have := Hn.out
          rwa [List.take_of_length_le (by rw [Hnl.out]; exact Nat.le_refl _)] at this
        · rwa [List.take_of_length_le (by rw [Hnl.out]; exact Nat.le_refl _)] at hown)
      clear hown hb
      go_wp2_with fail
      exact HF.out

end Go.Proofs.YtlidhdljgnijaaaDoor

/-
  CONTRACT of the program's tag.Write.
-/
set_option linter.unusedVariables false
namespace Go.Proofs.YtlidhdljgnijaaaDoor
open Go.RowKit

theorem writeT_shape (kind : Int) (ids : List Int) (ll : List (List Int)) (ps : List UInt8) : writeT kind ids ll ps = ([byteU kind] ++ shapeT ids ll) ++ ps := by
  rw [writeT, shapeT]
  simp only [List.append_assoc, List.cons_append, List.nil_append]
theorem take_keys {ps : List UInt8} {np j : Nat} (h : ps.length = np * 32) (hj : j < np) : ps.take ((j + 1) * 32) = ps.take (j * 32) ++ keyI ps j := by
  rw [keyI, Nat.succ_mul, List.take_add]

set_option maxRecDepth 100000 in
set_option maxHeartbeats 4000000 in
theorem PWrite13 (kind : Int) (Ai : Option Addr) (ni ci : Nat) (Al : Option Addr) (nl cl : Nat) (ids : List Int) (ll : List (List Int)) (Ap : Option Addr) (np cp : Nat) (ps : List UInt8) (w : World) (h : TgR w w.heap.size Ai ni ci Al nl cl ids ll Ap np cp ps) (hf : fewT ids ll = true) :
    Calls Tryd.prog 17 #[.agg (tgV kind Ai ni ci Al nl cl Ap np cp)] w (WritePost w (okG kind ids ll np ps) (writeT kind ids ll ps)) := by
  obtain ⟨i0, hi0, hz0, hz1, hz2⟩ := info_parts byteInfo
  have hM := (Ms.nil w).box 28 (tgV kind Ai ni ci Al nl cl Ap np cp)
  have hck := fun wx (hb : Below w.heap.size w wx) => PCheck13 kind Ai ni ci Al nl cl ids ll Ap np cp ps wx ((h.below hb).more hb.size) hf
  have Hpost := Lib.hid (show (∀ w', Below w.heap.size w w' → okG kind ids ll np ps = false → WritePost w (okG kind ids ll np ps) (writeT kind ids ll ps) (.returned (.tuple #[.slice none 0 0, .int .i64 1])) w') ∧ (∀ w' A n c l, Below w.heap.size w w' → okG kind ids ll np ps = true → w'.ownsRow w.heap.size 5 1 (.slice A n c) n (l.map bv) → l = writeT kind ids ll ps → WritePost w (okG kind ids ll np ps) (writeT kind ids ll ps) (.returned (.tuple #[.slice A n c, .int .i64 0])) w') from
    ⟨fun w' h1 h2 => ⟨h1, .inl ⟨h2, rfl⟩⟩, fun w' A n c l h1 h2 h3 h4 => ⟨h1, .inr ⟨h2, A, n, c, rfl, by rw [← h4]; exact h3⟩⟩⟩)
  generalize WritePost w (okG kind ids ll np ps) (writeT kind ids ll ps) = PO at *
  go_enter Tryd.func17, Tryd.ntmps17
  go_upto_region 1 with fail
  try simp only [Act.put]
  obtain ⟨g, hg⟩ : ∃ g, g = w.heap.size := ⟨_, rfl⟩
  rw [← hg] at hM ⊢
  refine wp_gen (fun wx => Ms w wx [(g, 28, tgV kind Ai ni ci Al nl cl Ap np cp)]) hM ?_
  clear hM
  have Hg := Lib.hid hg
  clear hg
  rintro w0 hM0
  go_wp2_with ((with_reducible show wpList _ _ _ (⟨some 9, _, _, _, _, _⟩ :: _) _ _); refine wpList_loadC (by kernel_rfl) 28 (.tmp 1) rfl g rfl 28 (tgV kind Ai ni ci Al nl cl Ap np cp) _ (hM0.get 0 rfl) Tryd.underlying28 rfl tgInfo2 ?_)
  refine (hck _ hM0.old).mono ?_
  rintro e w1 ⟨he, hb1⟩
  subst he
  have hM1 := hM0.call hb1
  have hold := hM1.old
  clear hM0 hb1 hck
  by_cases hok : okG kind ids ll np ps = true
  rotate_left
  · have HF := Lib.hid (Hpost.out.1 w1 hold (by simpa using hok))
    rw [chkG, if_neg hok]
    clear hM1
    go_wp2_with fail
    exact HF.out
  rw [chkG, if_pos hok]
  have Hok := Lib.hid hok
  have hm := okG_mayD hok
  obtain ⟨hf1, hf2, hf3⟩ := few_len hf
  have hnp : np ≤ 2000 := by
    rw [okG, Bool.and_eq_true, Bool.and_eq_true, Bool.and_eq_true, decide_eq_true_eq, decide_eq_true_eq] at hok
    have h2 := nodesI_le kind ids ll
    omega
  have Hpl := Lib.hid h.pts.len
  have hpu := fun wx (hb : Below w.heap.size w wx) (A : Option Addr) (c : Nat) (hc : 1 ≤ c) (hr : Rd wx wx.heap.size A 1 ([byteU kind].map bv)) => PPutShape13 A 1 c [byteU kind] Ai ni ci Al nl cl ids ll wx ((h.sh.below hb).more hb.size) hc (by omega) hr hf2 hf3 hf1 (okI_mem (chkT_lv hm.2.1).2.1) (fun l hl x hx => by
    have h1 := (chkT_lv hm.2.1).2.2.2 l hl
    rw [in23, List.all_eq_true] at h1
    simpa using h1 x hx)
  have hky := fun wx (hb : Below w.heap.size w wx) => h.pts.below hb
  have Hlen := Lib.hid (shapeT_len hf2 hf3 hf1)
  obtain ⟨kn, rfl, hkn⟩ : ∃ kn : Nat, kind = (kn : Int) ∧ kn < 256 := by
    rcases hm.1 with rfl | rfl
    · exact ⟨1, rfl, by omega⟩
    · exact ⟨2, rfl, by omega⟩
  have hcp : np ≤ maxLen := Nat.le_trans h.pts.hnc h.pts.hcm
  have c0 := (hM1.get 0 rfl).cell (i := 0) (v := .int .i64 (kn : Int)) rfl
  have zk : IntKind.u64.wrap (kn : Int) = (kn : Int) := by rw [IntKind.wrap_u64]; omega
  have hal := d_al w1 (.cells #[.int .u64 (kn : Int)] 57)
  have hz1' : (w1.alloc (.cells #[.int .u64 (kn : Int)] 57)).heap.size = w1.heap.size + 1 := by simp
  have hnum := Num_any none 0 0 [] 1 (some ⟨w1.heap.size, 0, none⟩) 1 1 [kn] (w1.alloc (.cells #[.int .u64 (kn : Int)] 57)) (by omega) (by omega) (Rd.zero _ _ _) (by rw [hz1']; exact Rd.mk_ _ _ _ rfl (by omega) rfl rfl) (fun i x hx => by
    cases i with
    | zero => simp at hx; omega
    | succ i => simp at hx)
  have hgd : Good 1 [kn] := ⟨by omega, by omega, fun i x hx => by
    cases i with
    | zero => simp at hx; rw [show ((1 : Int).toNat) = 1 from rfl]; omega
    | succ i => simp at hx⟩
  have hMa := hM1.call hal
  clear hM1 hold hok hm hf1 hf2 hf3 hz1' h
  go_wp2_with fail
  refine hnum.mono ?_
  intro e w2 hp
  obtain ⟨hb2, A2, n2, c2, he, hnc2, hn2e, hown2⟩ := NumPost.bytes (w := w) hp hgd hMa.old
  subst he
  have hM2 := hMa.call (show Below (w1.alloc (.cells #[.int .u64 (kn : Int)] 57)).heap.size (w1.alloc (.cells #[.int .u64 (kn : Int)] 57)) w2 from hp.1)
  rw [show ([] : List UInt8) ++ nums (1 : Int).toNat [kn] = [byteU (kn : Int)] from rfl] at hown2 hn2e
  obtain rfl : n2 = 1 := hn2e
  have hps := hpu w2 hM2.old A2 c2 hnc2 (Rd.of_own hown2)
  have hr1 := tg_sh (hM2.get 0 rfl)
  clear hnum hp hal hMa hpu c0 hown2
  go_wp2_with ((with_reducible show wpList _ _ _ (⟨some 28, _, _, _, _, _⟩ :: _) _ _); refine wpList_load_midG (by kernel_rfl) 25 (.tmp 27) rfl g 1 rfl (shV Ai ni ci Al nl cl).toList _ hr1 Tryd.underlying25 rfl shapeInfo2 ?_)
  refine hps.mono ?_
  rintro e w3 ⟨hb3, A3, n3, c3, he, hnc3, hn3, hown3⟩
  subst he
  have hM3 := hM2.call hb3
  have ho3 := own_lower hown3 hM2.old.size
  have hold3 := hM3.old
  have cp3 := (hM3.get 0 rfl).cell (i := 3) (v := .slice Ap np cp) rfl
  have Hn3 := Lib.hid hn3
  have hn3b : n3 ≤ 100001 := by
    have := Hlen.out
    rw [hn3, List.length_append]
    simp only [List.length_cons, List.length_nil]
    omega
  clear hM2 hps hb3 hown3 hn3 hr1 hb2
  go_wp2_with fail
  go_loopw [5, 38] (fun v5 v38 wr => ∃ (j n : Nat) (A : Option Addr) (c : Nat), j ≤ np ∧ v38 = .int .i64 (j : Int) ∧ v5 = .slice A n c ∧ n = n3 + j * 32 ∧ wr.ownsRow w.heap.size 5 1 (.slice A n c) n ((([byteU (kn : Int)] ++ shapeT ids ll) ++ ps.take (j * 32)).map bv) ∧ Below w.heap.size w wr) (fun _ v38 _ => np - (intOf v38).toNat)
  case atStart => exact ⟨0, n3, A3, c3, by omega, rfl, rfl, by omega, by rw [Nat.zero_mul, List.take_zero, List.append_nil]; exact ho3, hold3⟩
  case round =>
    clear ho3 hold3 hM3 cp3
    obtain ⟨j, n, A, c, hj, rfl, rfl, hn, hown, hb⟩ := hrel
    have hnb : n ≤ 200000 := by omega
    have Hn := Lib.hid hn
    clear hn
    by_cases hjn : j < np
    · obtain ⟨bp, op, rfl, hbp, hrp⟩ := (hky wr hb).range hjn
      have hkl := keyI_len Hpl.out hjn
      have Htk := Lib.hid (take_keys Hpl.out hjn)
      generalize keyI ps j = ky at *
      have hsk := sizeKeyL hkl
      have hsa := sizeKey hkl
      have hone := one_keyF ky
      have zj : (j : Int) < (np : Int) := by omega
      have hMk := (Ms.nil wr).put 36 (keyC zeroK) (keyC ky)
      rw [keyC_zero] at hMk
      go_upto_region 13 with (first
        | ((with_reducible show wpList _ _ _ (⟨some 41, _, _, _, _, _⟩ :: _) _ _); refine wpList_load_midG (by kernel_rfl) 36 (.tmp 40) rfl bp (op + j * 32) rfl (keyC ky).toList _ hrp Tryd.underlying36 rfl hsk ?_)
        | ((with_reducible show wpList _ _ _ (⟨none, Op.store 36 _ _, _, _, _, _⟩ :: _) _ _); refine wpList_store_row rfl 36 (.tmp 8) (.tmp 41) rfl wr.heap.size (keyC ky) rfl rfl 36 _ (RowC.new _ _ _) hsa (by rw [keyC_size, hkl]; rfl) hone ?_))
      try simp only [Act.put]
      obtain ⟨gk, hgk⟩ : ∃ q, q = wr.heap.size := ⟨_, rfl⟩
      rw [← hgk] at hMk ⊢
      refine wp_gen (fun wx => Ms wr wx [(gk, 36, keyC ky)]) hMk ?_
      clear hMk hgk hsk hsa hone hrp
      rintro w4 hM4
      have hr4 : Rd w4 w4.heap.size (some ⟨gk, 0, none⟩) 32 (ky.map bv) := rd_key (hM4.get 0 rfl).lt hkl (hM4.get 0 rfl).range
      have hown4 := own_below hown hM4.old
      have hb4 := hb.trans (hM4.old.mono hb.size)
      clear hown hb hM4
      go_wp2_with (at_builtin; refine wpList_append_rd _ rfl (.tmp 42) (.tmp 43) _ rfl w.heap.size 5 i0 _ 1 Tryd.underlying41 hi0 hz0 hz1 hz2 rfl (.slice A n c) n _ rfl hown4 w4.heap.size (some ⟨gk, 0, none⟩) 32 32 (ky.map bv) rfl hr4 (one_bv _) (by simp only [maxLen]; omega) (by omega) hb4.size ?_; intro v5 w5 hown5 hgr5 hat5; obtain ⟨A5, c5, rfl, _, _⟩ := own_form hown5)
      go_roundw
      case rel => exact ⟨j + 1, n + 32, A5, c5, by omega, by go_num, rfl, by have := Hn.out; omega, by rw [Htk.out, ← List.append_assoc, List.map_append]; exact hown5, hb4.grown hgr5 hb4.size (fun q hq => (hown4.lt q hq).1)⟩
      case measure => simp [intOf]; omega
    · obtain rfl : j = np := by omega
      have HF := Lib.hid (Hpost.out.2 wr A n c _ hb Hok.out hown (by rw [List.take_of_length_le (by rw [Hpl.out]; exact Nat.le_refl _), writeT_shape]))
      clear hown hb
      go_wp2_with fail
      exact HF.out

end Go.Proofs.YtlidhdljgnijaaaDoor

/-
  THE PROGRAM'S FUNCTIONS OF LAYER 13 are what the laws over hypotheses ask.
-/
set_option linter.unusedVariables false
namespace Go.Proofs.YtlidhdljgnijaaaDoor
open Go.RowKit

theorem tgC : HGC := PCheck13
theorem tgS : HGS := PSums13
theorem tgU : HGU := PSum13
theorem tgL : HGL := PLeaf13
theorem tgW : HGW := PWrite13
theorem tgM : HGM := fun kind Ai ni ci Al nl cl ids ll Ap np cp ps kind' Ai' ni' ci' Al' nl' cl' ids' ll' Ap' np' cp' ps' w h h' hn hn' _ _ => PSame13 kind Ai ni ci Al nl cl ids ll Ap np cp ps kind' Ai' ni' ci' Al' nl' cl' ids' ll' Ap' np' cp' ps' w h h' hn hn'

end Go.Proofs.YtlidhdljgnijaaaDoor

/-
  THE WALK of TagTells (coterielaw13) at the program's own functions.
-/
set_option linter.unusedVariables false
namespace Go.Proofs.YtlidhdljgnijaaaDoor
open Go.RowKit

theorem walk_TagTells (kind : Int) (Ai : Option Addr) (ni ci : Nat) (Al : Option Addr) (nl cl : Nat) (ids : List Int) (ll : List (List Int)) (Ap : Option Addr) (np cp : Nat) (ps : List UInt8) (kind' : Int) (Ai' : Option Addr) (ni' ci' : Nat) (Al' : Option Addr) (nl' cl' : Nat) (ids' : List Int) (ll' : List (List Int)) (Ap' : Option Addr) (np' cp' : Nat) (ps' : List UInt8) (id : Int) (w : World) (h : TgR w w.heap.size Ai ni ci Al nl cl ids ll Ap np cp ps) (h' : TgR w w.heap.size Ai' ni' ci' Al' nl' cl' ids' ll' Ap' np' cp' ps') (hi1 : -9223372036854775808 ≤ id) (hi2 : id ≤ 9223372036854775807) (hK : KTab w) (hT : CTab w) :
    Calls Tryd.prog 3 #[.agg (tgV kind Ai ni ci Al nl cl Ap np cp), .agg (tgV kind' Ai' ni' ci' Al' nl' cl' Ap' np' cp'), .int .i64 id] w fun e w' => e = .returned (.bool true) ∧ Below w.heap.size w w' :=
  walkH_TagTells tgC tgS tgU tgL tgW tgM kind Ai ni ci Al nl cl ids ll Ap np cp ps kind' Ai' ni' ci' Al' nl' cl' ids' ll' Ap' np' cp' ps' id w h h' hK hT

end Go.Proofs.YtlidhdljgnijaaaDoor

