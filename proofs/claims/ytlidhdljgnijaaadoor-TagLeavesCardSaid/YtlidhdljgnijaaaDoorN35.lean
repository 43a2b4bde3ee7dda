import Derived.Test.YtlidhdljgnijaaaDoorN22
import Derived.Test.YtlidhdljgnijaaaDoorN34
import Derived.Test.YtlidhdljgnijaaaDoorN15
import Derived.Deep.RegionHeld3
/-
  CONTRACTS of the program's tag.Same, and slices.Equal of keys. Printed by gen_tagpa.py.
-/
set_option linter.unusedVariables false
namespace Go.Proofs.YtlidhdljgnijaaaDoor
open Go.RowKit

end Go.Proofs.YtlidhdljgnijaaaDoor

/-
  CONTRACTS of the program's red.add: a leaf more; a node more that has kids, whose Up are written ahead of it.
-/
set_option linter.unusedVariables false
namespace Go.Proofs.YtlidhdljgnijaaaDoor
open Go.RowKit

theorem upN_left {l r : List RN} {k : Nat} (h : k < l.length) (up : Int) : upN (l ++ r) k up = upN l k up ++ r := by
  have h1 := List.getElem?_eq_getElem h
  rw [← upN_set h1, ← upN_set (x := l[k]) (by rw [List.getElem?_append_left h]; exact h1), List.set_append_left _ _ h]
theorem upAll_left (ks : List Nat) (up : Int) (r : List RN) : ∀ l : List RN, (∀ k ∈ ks, k < l.length) → upAll (l ++ r) ks up = upAll l ks up ++ r := by
  induction ks with
  | nil => intro l _; rfl
  | cons k ks ih =>
    intro l h
    have h1 := ih (upN l k up) (fun x hx => by rw [upN_len]; exact h x (by simp [hx]))
    rw [upAll, List.foldl_cons, ← upAll, upN_left (h k (by simp)), h1]
    rfl
def PAddPost (base : Nat) (w : World) (v : Value) (ns : List RN) (us : List Value) (q : Value) (x : RN) (e : Ending) (w' : World) : Prop :=
  ∃ v', e = .returned v' ∧ OwR base w' v' (upAll (ns ++ [x]) x.kids (ns.length : Nat)) (us ++ [q]) ∧ w.grownBy w' v.ownBlock ∧ (v'.ownBlock = v.ownBlock ∨ ∃ y, v'.ownBlock = some y ∧ w.heap.size ≤ y)
theorem JS.drew {base : Nat} {w wx : World} {gB : Nat} {cs : Array Value} {v : Value} {ns : List RN} {us : List Value} {q : Value} {ks : List Nat} (h : JS base w wx gB cs v ns us q ks) : JS base w wx.drew gB cs v ns us q ks := by
  have hg := grown_drew wx none
  have hg' : ∀ x : Value, x.ownBlock = none ∨ x.ownBlock ≠ (none : Option Nat) := fun x => by cases x.ownBlock <;> simp
  exact ⟨⟨h.m.old.drew, fun p hp => (h.m.rows p hp).drew⟩, h.r.kept hg (hg' _) (fun u _ => hg' u), h.k.kept hg (hg' _), h.g.trans (grown_drew _ _), h.s, h.e, h.v, h.u⟩

set_option maxRecDepth 100000 in
set_option maxHeartbeats 4000000 in
theorem PAddK_any (base : Nat) (v : Value) (ns : List RN) (us : List Value) (lev a : Nat) (red : Bool) (gk ck : Nat) (ks : List Nat) (xf xt : RN) (w : World) (hb : base ≤ w.heap.size) (h : OwR base w v ns us)
    (hk : w.ownsRow base 3 1 (.slice (some ⟨gk, 0, none⟩) ks.length ck) ks.length (kidV ks)) (hlt : ∀ k ∈ ks, k < ns.length) (h0 : 0 < ks.length) (h3 : ks.length ≤ 3) (hn : ns.length ≤ 100000) (hf : ns[ks[0]]? = some xf) (ht : ns[ks[ks.length - 1]]? = some xt) :
    Calls Tryd.prog 95 #[v, .agg (ndZ lev a red), .slice (some ⟨gk, 0, none⟩) ks.length ck] w (PAddPost base w v ns us (.slice (some ⟨gk, 0, none⟩) ks.length ck) ⟨lev, a, red, xf.fr, xt.to, ks, -1⟩) := by
  obtain ⟨Av, cv, rfl, hcv, hmv⟩ := own_formT h.row
  have hn0 : 0 < ns.length := by have := hlt _ (List.getElem_mem h0); omega
  obtain ⟨g, rfl⟩ := own_someZ h.row hn0
  obtain ⟨uf, huf⟩ := h.get_u (k := ks[0]) (hlt _ (List.getElem_mem h0))
  obtain ⟨ut, hut⟩ := h.get_u (k := ks[ks.length - 1]) (hlt _ (List.getElem_mem _))
  have hJ0 : JS base w (w.alloc (.cells (ndZ lev a red) 68)) w.heap.size (ndZ lev a red) (.slice (some ⟨g, 0, none⟩) ns.length cv) ns us (.slice (some ⟨gk, 0, none⟩) ks.length ck) ks :=
    ⟨MsB.of ((Ms.nil w).box 68 (ndZ lev a red)) hb, h.quiet (d_al w _), own_below hk (d_al w _), World.grownBy_alloc w _ _, by simp, rfl, fun x hx => own_ltT h.row x hx, fun y hy x hx => (h.ltK hy hx).2⟩
  obtain ⟨k0, hk0⟩ : ∃ k0, k0 = ks[0] := ⟨_, rfl⟩
  obtain ⟨k1, hk1⟩ : ∃ k1, k1 = ks[ks.length - 1] := ⟨_, rfl⟩
  have hlt0 := hlt _ (List.getElem_mem h0)
  have hlt1 := hlt _ (List.getElem_mem (show ks.length - 1 < ks.length by omega))
  have e0 : (kidV ks)[0]? = some (.int .i64 (k0 : Nat)) := by rw [kidV, List.getElem?_map, List.getElem?_eq_getElem h0, hk0]; rfl
  have e1 : (kidV ks)[ks.length - 1]? = some (.int .i64 (k1 : Nat)) := by rw [kidV, List.getElem?_map, List.getElem?_eq_getElem (show ks.length - 1 < ks.length by omega), hk1]; rfl
  rw [← hk0] at hf huf hlt0
  rw [← hk1] at ht hut hlt1
  clear hk0 hk1
  obtain ⟨gB, hgB⟩ : ∃ gB, gB = w.heap.size := ⟨_, rfl⟩
  have Hpost := Lib.hid (show ∀ v' w', OwR base w' v' (upAll (ns ++ [⟨lev, a, red, xf.fr, xt.to, ks, -1⟩]) ks (ns.length : Nat)) (us ++ [.slice (some ⟨gk, 0, none⟩) ks.length ck]) → w.grownBy w' (some g) → (v'.ownBlock = some g ∨ ∃ y, v'.ownBlock = some y ∧ w.heap.size ≤ y) → PAddPost base w (.slice (some ⟨g, 0, none⟩) ns.length cv) ns us (.slice (some ⟨gk, 0, none⟩) ks.length ck) ⟨lev, a, red, xf.fr, xt.to, ks, -1⟩ (.returned v') w' from fun v' w' q1 q2 q3 => ⟨v', rfl, q1, q2, q3⟩)
  generalize PAddPost base w (.slice (some ⟨g, 0, none⟩) ns.length cv) ns us (.slice (some ⟨gk, 0, none⟩) ks.length ck) ⟨lev, a, red, xf.fr, xt.to, ks, -1⟩ = PO at *
  have Hup := Lib.hid (upAll_left ks (ns.length : Nat) [(⟨lev, a, red, xf.fr, xt.to, ks, -1⟩ : RN)] ns hlt)
  rw [← hgB] at hJ0 hb
  have Hlt := Lib.hid hlt
  clear hlt h hk
  unfold maxLen at hmv
  go_enter Tryd.func95, Tryd.ntmps95
  go_upto_region 1 with fail
  try simp only [Act.put]
  rw [← hgB]
  have HgB := Lib.hid hgB
  clear hgB
  refine wp_gen (fun wx => JS base w wx gB (ndZ lev a red) (.slice (some ⟨g, 0, none⟩) ns.length cv) ns us (.slice (some ⟨gk, 0, none⟩) ks.length ck) ks) hJ0 ?_
  clear hJ0
  rintro w1 hJ
  have c5 := (hJ.m.get 0 rfl).cell (i := 5) (v := .slice none 0 0) rfl
  have f5 := (hJ.m.get 0 rfl).frozen 5
  have hJ5 := hJ.set hb 5 (.slice (some ⟨gk, 0, none⟩) ks.length ck)
  have c6 := (hJ5.m.get 0 rfl).cell (i := 6) (v := .int .i64 0) rfl
  have f6 := (hJ5.m.get 0 rfl).frozen 6
  go_upto_region 2 with fail
  try simp only [Act.put]
  refine wp_gen (fun wx => JS base w wx gB #[.int .i64 (lev : Nat), .int .i64 (a : Nat), .bool red, .int .i64 0, .int .i64 0, .slice (some ⟨gk, 0, none⟩) ks.length ck, .int .i64 (-1)] (.slice (some ⟨g, 0, none⟩) ns.length cv) ns us (.slice (some ⟨gk, 0, none⟩) ks.length ck) ks) (hJ5.set hb 6 _) ?_
  clear hJ hJ5 c5 f5 c6 f6
  rintro w2 hJ
  have z1 : (0 : Int) < (ks.length : Int) := by omega
  go_upto_region 3 with fail
  try simp only [Act.put]
  have hJd := hJ.drew
  have d0 := hJd.k.cellAt 0 (by omega)
  rw [e0] at d0
  have dn := hJd.r.cell hf huf (j := 3) (by omega)
  rw [show (rnC xf uf)[3]? = some (.int .i64 (xf.fr : Nat)) from rfl] at dn
  have d1 := hJd.k.cellAt (ks.length - 1) (by omega)
  rw [e1] at d1
  have dt := hJd.r.cell ht hut (j := 4) (by omega)
  rw [show (rnC xt ut)[4]? = some (.int .i64 (xt.to : Nat)) from rfl] at dt
  have c3 := (hJd.m.get 0 rfl).cell (i := 3) (v := .int .i64 0) rfl
  have f3 := (hJd.m.get 0 rfl).frozen 3
  have hJ3 := hJd.set hb 3 (.int .i64 (xf.fr : Nat))
  have c4 := (hJ3.m.get 0 rfl).cell (i := 4) (v := .int .i64 0) rfl
  have f4 := (hJ3.m.get 0 rfl).frozen 4
  have hJ4 := hJ3.set hb 4 (.int .i64 (xt.to : Nat))
  have c4' := (hJ.m.get 0 rfl).cell (i := 4) (v := .int .i64 0) rfl
  have f4' := (hJ.m.get 0 rfl).frozen 4
  have z0 : (k0 : Int) < (ns.length : Int) := by omega
  have z2 : ((ks.length - 1 : Nat) : Int) < (ks.length : Int) := by omega
  have z3 : (k1 : Int) < (ns.length : Int) := by omega
  have z4 : IntKind.i64.wrap ((ks.length : Int) - 1) = ((ks.length - 1 : Nat) : Int) := by rw [IntKind.wrap_i64]; omega
  have zg : ¬ gk = gB := fun e => by
    obtain ⟨cur, hcur⟩ := own_tyT hJd.k (g := gk) rfl
    rw [e] at hcur
    exact nd_ne (ty_neT (hJd.m.get 0 rfl) hcur)
  have zh : ¬ g = gB := fun e => by have := hJd.v g rfl; omega
  have hkeep : ∀ j x (wx : World), wx.cell? ⟨gk, 0, none⟩ = some (.int .i64 (k0 : Nat)) ∧ wx.cell? ⟨g, k0 * 7 + 3, none⟩ = some (.int .i64 (xf.fr : Nat)) ∧ wx.cell? ⟨gk, ks.length - 1, none⟩ = some (.int .i64 (k1 : Nat)) ∧ wx.cell? ⟨g, k1 * 7 + 4, none⟩ = some (.int .i64 (xt.to : Nat)) →
      (wx.setCell ⟨gB, j, none⟩ x).cell? ⟨gk, 0, none⟩ = some (.int .i64 (k0 : Nat)) ∧ (wx.setCell ⟨gB, j, none⟩ x).cell? ⟨g, k0 * 7 + 3, none⟩ = some (.int .i64 (xf.fr : Nat)) ∧ (wx.setCell ⟨gB, j, none⟩ x).cell? ⟨gk, ks.length - 1, none⟩ = some (.int .i64 (k1 : Nat)) ∧ (wx.setCell ⟨gB, j, none⟩ x).cell? ⟨g, k1 * 7 + 4, none⟩ = some (.int .i64 (xt.to : Nat)) := fun j x wx hc => by
    have e1 := fun i => World.cell?_of_block (a := ⟨gk, i, none⟩) (Below.heap_setCell wx ⟨gB, j, none⟩ x gk zg)
    have e2 := fun i => World.cell?_of_block (a := ⟨g, i, none⟩) (Below.heap_setCell wx ⟨gB, j, none⟩ x g zh)
    rw [e1, e2, e1, e2]
    exact hc
  go_region_held3 (fun wx : World => wx.cell? ⟨gk, 0, none⟩ = some (.int .i64 (k0 : Nat)) ∧ wx.cell? ⟨g, k0 * 7 + 3, none⟩ = some (.int .i64 (xf.fr : Nat)) ∧ wx.cell? ⟨gk, ks.length - 1, none⟩ = some (.int .i64 (k1 : Nat)) ∧ wx.cell? ⟨g, k1 * 7 + 4, none⟩ = some (.int .i64 (xt.to : Nat)))
    (first | exact ⟨d0, dn, d1, dt⟩ | exact hkeep _ _ _ ⟨d0, dn, d1, dt⟩ | exact hkeep _ _ _ (hkeep _ _ _ ⟨d0, dn, d1, dt⟩))
    (first | done | fail "open")
  go_upto_region 4 with fail
  try simp only [Act.put]
  refine wp_gen (fun wx => JS base w wx gB #[.int .i64 (lev : Nat), .int .i64 (a : Nat), .bool red, .int .i64 (xf.fr : Nat), .int .i64 (xt.to : Nat), .slice (some ⟨gk, 0, none⟩) ks.length ck, .int .i64 (-1)] (.slice (some ⟨g, 0, none⟩) ns.length cv) ns us (.slice (some ⟨gk, 0, none⟩) ks.length ck) ks) hJ4 ?_
  clear hJ hJd hJ3 hJ4 c3 f3 c4 f4 c4' f4' d0 dn d1 dt hkeep z0 z2 z3 z4 z1
  rintro w5 hJ
  have hr5 := hJ.r
  have hk5 := hJ.k
  have hb5 := hJ.m.get 0 rfl
  have hg5 := hJ.g
  have hs5 := hJ.s
  obtain ⟨i0, hi0, hz0, hz1, hz2⟩ := info_parts nodeInfoR
  clear hJ hf ht huf hut e0 e1
  go_wp2_with fail
  go_loopw [8, 36] (fun v8 v36 wr => ∃ j : Nat, j ≤ ks.length ∧ v36 = .int .i64 (j : Int) ∧ OwR base wr (.slice (some ⟨g, 0, none⟩) ns.length cv) (upAll ns (ks.take j) (ns.length : Nat)) us ∧
    wr.ownsRow base 3 1 (.slice (some ⟨gk, 0, none⟩) ks.length ck) ks.length (kidV ks) ∧ w.grownBy wr (some g) ∧ wr.heap.size = gB + 1 ∧ RowC wr gB 68 #[.int .i64 (lev : Nat), .int .i64 (a : Nat), .bool red, .int .i64 (xf.fr : Nat), .int .i64 (xt.to : Nat), .slice (some ⟨gk, 0, none⟩) ks.length ck, .int .i64 (-1)]) (fun _ v36 _ => ks.length - (intOf v36).toNat)
  case atStart => exact ⟨0, by omega, rfl, hr5, hk5, hg5, hs5, hb5⟩
  case round =>
    clear hr5 hk5 hg5 hb5
    obtain ⟨j, hj, rfl, hr, hk, hg, hs, hbx⟩ := hrel
    by_cases hjn : j < ks.length
    · obtain ⟨kj, hkj⟩ : ∃ kj, kj = ks[j] := ⟨_, rfl⟩
      have hmem : kj ∈ ks := by rw [hkj]; exact List.getElem_mem hjn
      have hltj := Hlt.out kj hmem
      have d0 := hk.cellAt j (by omega)
      rw [kidV, List.getElem?_map, List.getElem?_eq_getElem hjn, ← hkj] at d0
      change wr.cell? ⟨gk, j, none⟩ = some (.int .i64 (kj : Nat)) at d0
      obtain ⟨L, hL⟩ : ∃ L, L = upAll ns (ks.take j) (ns.length : Nat) := ⟨_, rfl⟩
      have hLl : L.length = ns.length := by rw [hL, upAll_len]
      have hL2 : upAll ns (ks.take (j + 1)) (ns.length : Nat) = upN L kj (ns.length : Nat) := by rw [upAll_succ _ _ _ hjn, ← hL, ← hkj]
      rw [← hL] at hr
      have HL2 := Lib.hid hL2
      clear hL hL2
      obtain ⟨x, hx⟩ : ∃ x, L[kj]? = some x := ⟨_, List.getElem?_eq_getElem (by omega)⟩
      have hr' := hr
      rw [← hLl] at hr'
      obtain ⟨u, hu⟩ := hr'.get_u (k := kj) (by omega)
      have c6' := hr'.cell hx hu (j := 6) (by omega)
      rw [show (rnC x u)[6]? = some (.int .i64 x.up) from rfl] at c6'
      have f6 := hr'.row.frozenAt (kj * 7 + 6)
      have hr2 := hr'.up hx (ns.length : Nat)
      rw [upN_set hx, hLl, ← HL2.out] at hr2
      obtain ⟨_, s2⟩ := hr'.row.stored (kj * 7 + 6) (.int .i64 (ns.length : Nat))
      obtain ⟨cur, hcur⟩ := own_tyT hr'.row (g := g) rfl
      have hk2 := own_farT hk s2 hcur nd_ne
      have hg2 := hg.andThen s2 (fun y hy => .inr hy)
      have hbx2 := hbx.grownT s2 (fun y hy e => by injection hy with hy; exact zh (hy.trans e.symm))
      have hs2 : (wr.setCell ⟨g, kj * 7 + 6, none⟩ (.int .i64 (ns.length : Nat))).heap.size = gB + 1 := by simpa using hs
      have z0 : (kj : Int) < (ns.length : Int) := by omega
      have z1 : (j : Int) < (ks.length : Int) := by omega
      clear hr hr' hk hg hkj hx hu s2 hcur hbx hs
      go_wp2_with fail
      go_roundw
      case rel => exact ⟨j + 1, by omega, by go_num, hr2, hk2, hg2, hs2, hbx2⟩
      case measure => simp [intOf]; omega
    · obtain rfl : j = ks.length := by omega
      rw [List.take_length] at hr
      have hal := d_al wr (.cells #[.int .i64 (lev : Nat), .int .i64 (a : Nat), .bool red, .int .i64 (xf.fr : Nat), .int .i64 (xt.to : Nat), .slice (some ⟨gk, 0, none⟩) ks.length ck, .int .i64 (-1)] 68)
      have hr6 := hr.quiet hal
      have hk6 := own_below hk hal
      have hl6 : (upAll ns ks (ns.length : Nat)).length = ns.length := upAll_len _ _ _
      have hrow6 := hr6.row
      rw [hl6] at hrow6
      have hrw : RowC (wr.alloc (.cells #[.int .i64 (lev : Nat), .int .i64 (a : Nat), .bool red, .int .i64 (xf.fr : Nat), .int .i64 (xt.to : Nat), .slice (some ⟨gk, 0, none⟩) ks.length ck, .int .i64 (-1)] 68)) wr.heap.size 68 #[.int .i64 (lev : Nat), .int .i64 (a : Nat), .bool red, .int .i64 (xf.fr : Nat), .int .i64 (xt.to : Nat), .slice (some ⟨gk, 0, none⟩) ks.length ck, .int .i64 (-1)] := RowC.new _ _ _
      have hs6 : (wr.alloc (.cells #[.int .i64 (lev : Nat), .int .i64 (a : Nat), .bool red, .int .i64 (xf.fr : Nat), .int .i64 (xt.to : Nat), .slice (some ⟨gk, 0, none⟩) ks.length ck, .int .i64 (-1)] 68)).heap.size = gB + 1 + 1 := by rw [World.size_alloc, hs]
      have hg6 : w.grownBy (wr.alloc (.cells #[.int .i64 (lev : Nat), .int .i64 (a : Nat), .bool red, .int .i64 (xf.fr : Nat), .int .i64 (xt.to : Nat), .slice (some ⟨gk, 0, none⟩) ks.length ck, .int .i64 (-1)] 68)) (some g) := hg.andThen (World.grownBy_alloc wr _ none) (by simp)
      clear hal hr hk hg hs
      go_wp2_with (first
        | ((with_reducible show wpList _ _ _ (⟨some 48, _, _, _, _, _⟩ :: _) _ _); refine wpList_loadC (by kernel_rfl) 68 (.tmp 4) rfl gB rfl 68 #[.int .i64 (lev : Nat), .int .i64 (a : Nat), .bool red, .int .i64 (xf.fr : Nat), .int .i64 (xt.to : Nat), .slice (some ⟨gk, 0, none⟩) ks.length ck, .int .i64 (-1)] _ hbx Tryd.underlying68 rfl rnInfo2 ?_)
        | (at_builtin; refine wpList_append_node (by kernel_rfl) (.tmp 47) (.tmp 49) 64 rfl base 68 i0 _ 7 72 Tryd.underlying64 hi0 hz0 hz1 hz2 rfl (by omega) (.slice (some ⟨g, 0, none⟩) ns.length cv) ns.length (cellsR (upAll ns ks (ns.length : Nat)) us) rfl hrow6 ⟨wr.heap.size, 0, none⟩ 1 [.int .i64 (lev : Nat), .int .i64 (a : Nat), .bool red, .int .i64 (xf.fr : Nat), .int .i64 (xt.to : Nat), .slice (some ⟨gk, 0, none⟩) ks.length ck, .int .i64 (-1)] rfl rfl (fun j u hu => by rw [add_zeroR]; exact hrw.cell (by simpa using hu)) (by simp [Value.oneCell']) (by unfold maxLen; omega) (by omega) (by omega) ?_; intro v6 w6 hown6 hgr6 hat6))
      have hn6 := hr6.snoc (x := ⟨lev, a, red, xf.fr, xt.to, ks, -1⟩) hk6 hgr6 (by rw [hl6]; exact hown6)
      rw [← Hup.out] at hn6
      have hg7 : w.grownBy w6 (some g) := hg6.trans hgr6
      rw [hs6] at hat6
      (first | refine Hpost.out _ _ hn6 hg7 ?_ | refine bodyPost_ret (results_tmp rfl _ _ _) rfl (Hpost.out _ _ hn6 hg7 ?_))
      rcases hat6 with h | h
      · exact .inl h
      · exact .inr ⟨_, h, by have := HgB.out; omega⟩

/-- what a call leaves that adds a tree's last node -/
def PTreePost (base : Nat) (w : World) (v : Value) (ns : List RN) (us : List Value) (K : Value → Prop) (T : RT) (e : Ending) (w' : World) : Prop :=
  ∃ v' us', e = .returned v' ∧ OwR base w' v' (ns ++ T.flat ns.length (-1)) us' ∧ w.grownBy w' v.ownBlock ∧ (v'.ownBlock = v.ownBlock ∨ ∃ y, v'.ownBlock = some y ∧ w.heap.size ≤ y) ∧ ∀ u ∈ us', u ∈ us ∨ K u
theorem PAddT_any (base : Nat) (v : Value) (ns : List RN) (us : List Value) (lev a : Nat) (red : Bool) (gk ck : Nat) (Ts : List RT) (w : World) (hT : (∃ l r, Ts = [l, r]) ∨ (red = false ∧ ∃ l m r, Ts = [l, m, r])) (hb : base ≤ w.heap.size) (h : OwR base w v (ns ++ flats Ts ns.length) us)
    (hk : w.ownsRow base 3 1 (.slice (some ⟨gk, 0, none⟩) Ts.length ck) Ts.length (kidV (ends Ts ns.length))) (hn : ns.length + sizes Ts ≤ 100000) :
    Calls Tryd.prog 95 #[v, .agg (ndZ lev a red), .slice (some ⟨gk, 0, none⟩) Ts.length ck] w (PTreePost base w v ns us (fun u => u = .slice (some ⟨gk, 0, none⟩) Ts.length ck) (joinT lev a red Ts)) := by
  have hll : (ns ++ flats Ts ns.length).length = ns.length + sizes Ts := by rw [List.length_append, flats_len]
  have hel := ends_len Ts ns.length
  rcases hT with ⟨l, r, rfl⟩ | ⟨rfl, l, m, r, rfl⟩
  · have p1 := l.size_pos
    have p2 := r.size_pos
    have hA : (ns ++ l.flat ns.length (-1)).length = ns.length + l.size := by rw [List.length_append, RT.flat_len]
    have x1 : (ns ++ flats [l, r] ns.length)[(ends [l, r] ns.length)[0]'(by simp [ends])]? = some (l.node ns.length (-1)) := by
      have := flat_end ns (r.flat (ns.length + l.size) (-1)) l (ns.length + l.size - 1) (-1) rfl
      simpa [flats, ends] using this
    have x2 : (ns ++ flats [l, r] ns.length)[(ends [l, r] ns.length)[(ends [l, r] ns.length).length - 1]'(by simp [ends])]? = some (r.node (ns.length + l.size) (-1)) := by
      have := flat_end (ns ++ l.flat ns.length (-1)) [] r (ns.length + l.size + r.size - 1) (-1) (by rw [hA])
      rw [hA] at this
      simpa [flats, ends] using this
    rw [← hel] at hk ⊢
    refine (PAddK_any base v _ us lev a red gk ck (ends [l, r] ns.length) _ _ w hb h hk (fun k hk => ?_) (by rw [hel]; simp) (by rw [hel]; simp) (by rw [hll]; exact hn) x1 x2).mono ?_
    · rw [hll]
      simp only [ends, List.mem_cons, List.not_mem_nil, or_false] at hk
      simp only [sizes]
      omega
    · rintro e w' ⟨v', rfl, q1, q2, q3⟩
      rw [RT.node_fr, RT.node_to, hll, join_two] at q1
      exact ⟨v', _, rfl, q1, q2, q3, fun u hu => by simpa using hu⟩
  · have p1 := l.size_pos
    have p2 := m.size_pos
    have p3 := r.size_pos
    have hA : (ns ++ l.flat ns.length (-1) ++ m.flat (ns.length + l.size) (-1)).length = ns.length + l.size + m.size := by rw [List.length_append, List.length_append, RT.flat_len, RT.flat_len]
    have x1 : (ns ++ flats [l, m, r] ns.length)[(ends [l, m, r] ns.length)[0]'(by simp [ends])]? = some (l.node ns.length (-1)) := by
      have := flat_end ns (m.flat (ns.length + l.size) (-1) ++ r.flat (ns.length + l.size + m.size) (-1)) l (ns.length + l.size - 1) (-1) rfl
      simpa [flats, ends] using this
    have x2 : (ns ++ flats [l, m, r] ns.length)[(ends [l, m, r] ns.length)[(ends [l, m, r] ns.length).length - 1]'(by simp [ends])]? = some (r.node (ns.length + l.size + m.size) (-1)) := by
      have := flat_end (ns ++ l.flat ns.length (-1) ++ m.flat (ns.length + l.size) (-1)) [] r (ns.length + l.size + m.size + r.size - 1) (-1) (by rw [hA])
      rw [hA] at this
      simpa [flats, ends] using this
    rw [← hel] at hk ⊢
    refine (PAddK_any base v _ us lev a false gk ck (ends [l, m, r] ns.length) _ _ w hb h hk (fun k hk => ?_) (by rw [hel]; simp) (by rw [hel]; simp) (by rw [hll]; exact hn) x1 x2).mono ?_
    · rw [hll]
      simp only [ends, List.mem_cons, List.not_mem_nil, or_false] at hk
      simp only [sizes]
      omega
    · rintro e w' ⟨v', rfl, q1, q2, q3⟩
      rw [RT.node_fr, RT.node_to, hll, join_three] at q1
      exact ⟨v', _, rfl, q1, q2, q3, fun u hu => by simpa using hu⟩

set_option maxRecDepth 100000 in
set_option maxHeartbeats 4000000 in
theorem PAddLeaf_any (base a : Nat) (v : Value) (ns : List RN) (us : List Value) (w : World) (ha : a ≤ 100000) (hb : base ≤ w.heap.size) (h : OwR base w v ns us) (hn : ns.length + 1 ≤ 100000) :
    Calls Tryd.prog 95 #[v, .agg #[.int .i64 0, .int .i64 (a : Nat), .bool false, .int .i64 (a : Nat), .int .i64 ((a : Int) + 1), .slice none 0 0, .int .i64 0], .slice none 0 0] w (PTreePost base w v ns us (fun u => u = .slice none 0 0) (.leaf a)) := by
  obtain ⟨Av, cv, rfl, hcv, hmv⟩ := own_formT h.row
  obtain ⟨gB, hgB⟩ : ∃ gB, gB = w.heap.size := ⟨_, rfl⟩
  have hM := MsB.of ((Ms.nil w).box 68 #[.int .i64 0, .int .i64 (a : Nat), .bool false, .int .i64 (a : Nat), .int .i64 ((a : Int) + 1), .slice none 0 0, .int .i64 0]) hb
  have hJ0 : JS base w (w.alloc (.cells #[.int .i64 0, .int .i64 (a : Nat), .bool false, .int .i64 (a : Nat), .int .i64 ((a : Int) + 1), .slice none 0 0, .int .i64 0] 68)) w.heap.size #[.int .i64 0, .int .i64 (a : Nat), .bool false, .int .i64 (a : Nat), .int .i64 ((a : Int) + 1), .slice none 0 0, .int .i64 0] (.slice Av ns.length cv) ns us (.slice none 0 0) [] :=
    ⟨hM, h.quiet (d_al w _), World.ownsRow_nil _ _ _ _, World.grownBy_alloc w _ _, by simp, rfl, fun x hx => own_ltT h.row x hx, fun y hy x hx => (h.ltK hy hx).2⟩
  have Hpost := Lib.hid (show ∀ v' us' w', OwR base w' v' (ns ++ (RT.leaf a).flat ns.length (-1)) us' → w.grownBy w' (Value.slice Av ns.length cv).ownBlock → (v'.ownBlock = (Value.slice Av ns.length cv).ownBlock ∨ ∃ y, v'.ownBlock = some y ∧ w.heap.size ≤ y) → (∀ u ∈ us', u ∈ us ∨ u = .slice none 0 0) → PTreePost base w (.slice Av ns.length cv) ns us (fun u => u = .slice none 0 0) (.leaf a) (.returned v') w' from fun v' us' w' q1 q2 q3 q4 => ⟨v', us', rfl, q1, q2, q3, q4⟩)
  generalize PTreePost base w (.slice Av ns.length cv) ns us (fun u => u = .slice none 0 0) (.leaf a) = PO at *
  rw [← hgB] at hJ0 hb
  clear h hM
  unfold maxLen at hmv
  go_enter Tryd.func95, Tryd.ntmps95
  go_upto_region 1 with fail
  try simp only [Act.put]
  rw [← hgB]
  have HgB := Lib.hid hgB
  clear hgB
  refine wp_gen (fun wx => JS base w wx gB #[.int .i64 0, .int .i64 (a : Nat), .bool false, .int .i64 (a : Nat), .int .i64 ((a : Int) + 1), .slice none 0 0, .int .i64 0] (.slice Av ns.length cv) ns us (.slice none 0 0) []) hJ0 ?_
  clear hJ0
  rintro w1 hJ
  have c5 := (hJ.m.get 0 rfl).cell (i := 5) (v := .slice none 0 0) rfl
  have f5 := (hJ.m.get 0 rfl).frozen 5
  have hJ5 := hJ.set hb 5 (.slice none 0 0)
  have c6 := (hJ5.m.get 0 rfl).cell (i := 6) (v := .int .i64 0) rfl
  have f6 := (hJ5.m.get 0 rfl).frozen 6
  go_upto_region 2 with fail
  try simp only [Act.put]
  refine wp_gen (fun wx => JS base w wx gB #[.int .i64 0, .int .i64 (a : Nat), .bool false, .int .i64 (a : Nat), .int .i64 ((a : Int) + 1), .slice none 0 0, .int .i64 (-1)] (.slice Av ns.length cv) ns us (.slice none 0 0) []) (hJ5.set hb 6 _) ?_
  clear hJ hJ5 c5 f5 c6 f6
  rintro w5 hJ
  go_upto_region 4 with fail
  try simp only [Act.put]
  have hr5 := hJ.r
  have hb5 := hJ.m.get 0 rfl
  have hg5 := hJ.g
  have hs5 := hJ.s
  obtain ⟨i0, hi0, hz0, hz1, hz2⟩ := info_parts nodeInfoR
  clear hJ
  go_wp2_with fail
  go_loopw [8, 36] (fun v8 v36 wr => v36 = .int .i64 0 ∧ wr = w5) (fun _ v36 _ => 0)
  case atStart => exact ⟨rfl, rfl⟩
  case round =>
    obtain ⟨rfl, rfl⟩ := hrel
    have hal := d_al wr (.cells #[.int .i64 0, .int .i64 (a : Nat), .bool false, .int .i64 (a : Nat), .int .i64 ((a : Int) + 1), .slice none 0 0, .int .i64 (-1)] 68)
    have hr6 := hr5.quiet hal
    have hrw : RowC (wr.alloc (.cells #[.int .i64 0, .int .i64 (a : Nat), .bool false, .int .i64 (a : Nat), .int .i64 ((a : Int) + 1), .slice none 0 0, .int .i64 (-1)] 68)) wr.heap.size 68 #[.int .i64 0, .int .i64 (a : Nat), .bool false, .int .i64 (a : Nat), .int .i64 ((a : Int) + 1), .slice none 0 0, .int .i64 (-1)] := RowC.new _ _ _
    have hs6 : (wr.alloc (.cells #[.int .i64 0, .int .i64 (a : Nat), .bool false, .int .i64 (a : Nat), .int .i64 ((a : Int) + 1), .slice none 0 0, .int .i64 (-1)] 68)).heap.size = gB + 1 + 1 := by rw [World.size_alloc, hs5]
    have hg6 : w.grownBy (wr.alloc (.cells #[.int .i64 0, .int .i64 (a : Nat), .bool false, .int .i64 (a : Nat), .int .i64 ((a : Int) + 1), .slice none 0 0, .int .i64 (-1)] 68)) (Value.slice Av ns.length cv).ownBlock := hg5.andThen (World.grownBy_alloc wr _ none) (by simp)
    clear hal hr5 hg5 hs5
    go_wp2_with (first
      | ((with_reducible show wpList _ _ _ (⟨some 48, _, _, _, _, _⟩ :: _) _ _); refine wpList_loadC (by kernel_rfl) 68 (.tmp 4) rfl gB rfl 68 #[.int .i64 0, .int .i64 (a : Nat), .bool false, .int .i64 (a : Nat), .int .i64 ((a : Int) + 1), .slice none 0 0, .int .i64 (-1)] _ hb5 Tryd.underlying68 rfl rnInfo2 ?_)
      | (at_builtin; refine wpList_append_node (by kernel_rfl) (.tmp 47) (.tmp 49) 64 rfl base 68 i0 _ 7 72 Tryd.underlying64 hi0 hz0 hz1 hz2 rfl (by omega) (.slice Av ns.length cv) ns.length (cellsR ns us) rfl hr6.row ⟨wr.heap.size, 0, none⟩ 1 [.int .i64 0, .int .i64 (a : Nat), .bool false, .int .i64 (a : Nat), .int .i64 ((a : Int) + 1), .slice none 0 0, .int .i64 (-1)] rfl rfl (fun j u hu => by rw [add_zeroR]; exact hrw.cell (by simpa using hu)) (by simp [Value.oneCell']) (by unfold maxLen; omega) (by omega) (by omega) ?_; intro v6 w6 hown6 hgr6 hat6))
    have hCL : ([.int .i64 0, .int .i64 (a : Nat), .bool false, .int .i64 (a : Nat), .int .i64 ((a : Int) + 1), .slice none 0 0, .int .i64 (-1)] : List Value) = rnC ⟨0, a, false, a, a + 1, [], -1⟩ (.slice none 0 0) := by simp [rnC]
    rw [hCL] at hown6
    have hn6 := hr6.snoc (x := ⟨0, a, false, a, a + 1, [], -1⟩) (World.ownsRow_nil _ _ _ _) hgr6 hown6
    have hg7 := hg6.trans hgr6
    rw [hs6] at hat6
    (first | refine Hpost.out _ _ _ hn6 hg7 ?_ ?_ | refine bodyPost_ret (results_tmp rfl _ _ _) rfl (Hpost.out _ _ _ hn6 hg7 ?_ ?_))
    · rcases hat6 with h | h
      · exact .inl h
      · exact .inr ⟨_, h, by have := HgB.out; omega⟩
    · intro u hu
      rcases List.mem_append.1 hu with hu | hu
      · exact .inl hu
      · exact .inr (by simpa using hu)

end Go.Proofs.YtlidhdljgnijaaaDoor

