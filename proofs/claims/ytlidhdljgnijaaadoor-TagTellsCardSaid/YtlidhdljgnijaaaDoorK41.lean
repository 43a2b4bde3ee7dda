import Derived.Test.YtlidhdljgnijaaaDoorK38
import Derived.Test.YtlidhdljgnijaaaDoorK25
import Derived.Test.YtlidhdljgnijaaaDoorK26
import Derived.Test.YtlidhdljgnijaaaDoorK39
import Derived.Test.YtlidhdljgnijaaaDoorK40
import Derived.Test.YtlidhdljgnijaaaDoorK32
import Derived.Lib.SlBytesConst
import Derived.Test.YtlidhdljgnijaaaDoorK33
import Derived.Test.YtlidhdljgnijaaaDoorK29
/-
  CONTRACT of the program's tag.summedUp: what a node's sum is of.
-/
set_option linter.unusedVariables false
namespace Go.Proofs.YtlidhdljgnijaaaDoor
open Go.RowKit

theorem rd_key {w : World} {B b o : Nat} {k : List UInt8} (hb : b < B) (hk : k.length = 32) (h : w.rangeAt b o (keyC k).toList) : Rd w B (some ⟨b, o, none⟩) 32 (k.map bv) :=
  ⟨by simpa using hk, fun _ => ⟨b, o, rfl, hb, fun z u hu => h z u (by simpa [keyC] using hu)⟩⟩
theorem txs_consT {w : World} {B : Nat} {A : Option Addr} {n c : Nat} {t : List UInt8} {vs : List Value} {ts : List (List UInt8)} (ht : t.length = n) (hc : n ≤ c) (hr : Rd w B A n (t.map bv)) (h : Txs w B vs ts) : Txs w B (.slice A n c :: vs) (t :: ts) := by
  subst ht
  exact (Txs.one hr hc).append h

set_option maxRecDepth 100000 in
set_option maxHeartbeats 2000000 in
theorem PSummed13 (kind : Int) (Ai : Option Addr) (ni ci : Nat) (Al : Option Addr) (nl cl : Nat) (ids : List Int) (ll : List (List Int)) (Ap : Option Addr) (np cp : Nat) (ps : List UInt8) (x : RN) (Au : Option Addr) (cu j : Nat) (As : Option Addr) (js cs : Nat) (out : List UInt8) (w : World) (h : TgR w w.heap.size Ai ni ci Al nl cl ids ll Ap np cp ps)
    (hj : j < np) (hnp : np ≤ 2000) (hjs : js ≤ 2000) (hx3 : x.kids.length ≤ 3) (hlf : x.lev = 0 → x.at_ < ids.length) (hids : ∀ y ∈ ids, 0 ≤ y ∧ y ≤ 1048576) (hk : ∀ k ∈ x.kids, k < js) (hku : Rd w w.heap.size Au x.kids.length ((castL x.kids).map iv)) (hs : KyR w w.heap.size As js cs out) :
    Calls Tryd.prog 36 #[.agg (tgV kind Ai ni ci Al nl cl Ap np cp), .agg (riC x.i (.slice Au x.kids.length cu)).toArray, .int .i64 (j : Int), .slice As js cs] w fun e w' =>
      ∃ A c, e = .returned (.tuple #[.slice A (txs (partsN out ids ps j x)).length c, .int .i64 0]) ∧ w'.ownsRow w.heap.size 5 1 (.slice A (txs (partsN out ids ps j x)).length c) (txs (partsN out ids ps j x)).length ((txs (partsN out ids ps j x)).map bv) ∧ (txs (partsN out ids ps j x)).length ≤ c ∧ Below w.heap.size w w' := by
  obtain ⟨i0, hi0, hz0, hz1, hz2⟩ := info_parts byteInfo
  obtain ⟨i1, hi1, hy0, hy1, hy2⟩ := info_parts textInfo
  have hM := ((Ms.nil w).box 28 (tgV kind Ai ni ci Al nl cl Ap np cp)).box 68 (riC x.i (.slice Au x.kids.length cu)).toArray
  simp only [World.size_alloc] at hM
  obtain ⟨pn, hpn⟩ : ∃ q, q = partsN out ids ps j x := ⟨_, rfl⟩
  obtain ⟨hps1, hps2⟩ := parts_short out ids ps j x hx3
  rw [← hpn] at hps1 hps2
  obtain ⟨htl, hgood⟩ := txs_le32 pn hps1
  have Htl := Lib.hid (show (txs pn).length ≤ 170 by omega)
  have Hgood := Lib.hid hgood
  rw [← hpn]
  have Hpost := Lib.hid (show ∀ w' (A : Option Addr) (n c : Nat), n = (txs pn).length → w'.ownsRow w.heap.size 5 1 (.slice A n c) n (([] ++ txs pn).map bv) → n ≤ c → Below w.heap.size w w' → (fun e w' => ∃ A c, e = Ending.returned (Value.tuple #[.slice A (txs pn).length c, .int .i64 0]) ∧ w'.ownsRow w.heap.size 5 1 (.slice A (txs pn).length c) (txs pn).length ((txs pn).map bv) ∧ (txs pn).length ≤ c ∧ Below w.heap.size w w') (.returned (.tuple #[.slice A n c, .int .i64 0])) w' from fun w' A n c h1 h2 h3 h4 => by
    subst h1
    exact ⟨A, c, rfl, h2, h3, h4⟩)
  generalize (fun e w' => ∃ A c, e = Ending.returned (Value.tuple #[.slice A (txs pn).length c, .int .i64 0]) ∧ w'.ownsRow w.heap.size 5 1 (.slice A (txs pn).length c) (txs pn).length ((txs pn).map bv) ∧ (txs pn).length ≤ c ∧ Below w.heap.size w w') = PO at *
  have Hpn := Lib.hid hpn
  clear hpn hps1 hps2 htl hgood
  obtain ⟨bp, op, rfl, hbp, hrp⟩ := h.pts.range hj
  have hkl := keyI_len h.pts.len hj
  have hrd := rd_key hbp hkl hrp
  obtain ⟨ky, hky⟩ : ∃ ky, ky = keyI ps j := ⟨_, rfl⟩
  rw [← hky] at hkl hrd
  clear hrp
  have Hky := Lib.hid hky
  have Hkl := Lib.hid hkl
  have HS := Lib.hid h.sh
  have zj : (j : Int) < (np : Int) := by omega
  have hpm : np ≤ cp := h.pts.hnc
  have hpm2 : cp ≤ maxLen := h.pts.hcm
  unfold maxLen at hpm2
  clear h hky hkl
  have kc := fun (w : World) (C : Array Value) (n c : Nat) => Lib.run_convert_bytes_const (P := Tryd.prog) w 41 5 C n c Tryd.underlying41 Tryd.underlying5
  go_enter Tryd.func36, Tryd.ntmps36
  go_upto_region 1 with fail
  try simp only [Act.put]
  obtain ⟨g, hg⟩ : ∃ g, g = w.heap.size := ⟨_, rfl⟩
  rw [← hg] at hM ⊢
  refine wp_gen (fun wx => Ms w wx [(g + 1, 68, (riC x.i (.slice Au x.kids.length cu)).toArray), (g, 28, tgV kind Ai ni ci Al nl cl (some ⟨bp, op, none⟩) np cp)]) hM ?_
  have Hg := Lib.hid hg
  clear hM hg
  rintro w0 hM0
  have c3 := (hM0.get 1 rfl).cell (i := 3) (v := .slice (some ⟨bp, op, none⟩) np cp) rfl
  have hlev := (hM0.get 0 rfl).cell (i := 0) (v := .int .i64 (x.lev : Nat)) rfl
  by_cases hl0 : x.lev = 0
  · have zl : ((x.lev : Nat) : Int) = 0 := by omega
    have hat := hlf hl0
    have c1 := (hM0.get 1 rfl).cell (i := 1) (v := .slice Ai ni ci) rfl
    have hxa := (hM0.get 0 rfl).cell (i := 1) (v := .int .i64 (x.at_ : Nat)) rfl
    have hni := HS.out.hni
    obtain ⟨bi, oi, y, rfl, hbi, hy, hcy⟩ := rdI_num (HS.out.hids.below hM0.old) (k := x.at_) (by omega)
    obtain ⟨hy0', hy1'⟩ := hids y (List.mem_of_getElem? hy)
    obtain ⟨m, rfl⟩ : ∃ m : Nat, y = (m : Int) := ⟨y.toNat, by omega⟩
    have hpl : pn = [leafTag, be 4 m, ky] := by
      rw [Hpn.out, partsN, if_pos hl0, Hky.out, getD_at hy]
      rfl
    have zm : IntKind.u64.wrap (m : Int) = (m : Int) := by rw [IntKind.wrap_u64]; omega
    have zat : ((x.at_ : Nat) : Int) < (ni : Int) := by omega
    have Hpl := Lib.hid hpl
    have hal := d_al w0 (.cells #[.int .u64 (m : Int)] 57)
    have hM1 := hM0.call hal
    have hrdn : Rd (w0.alloc (.cells #[.int .u64 (m : Int)] 57)) (w0.heap.size + 1) (some ⟨w0.heap.size, 0, none⟩) 1 ([m].map qv) := Rd.mk_ _ _ _ rfl (by omega) rfl rfl
    have hz1' : (w0.alloc (.cells #[.int .u64 (m : Int)] 57)).heap.size = w0.heap.size + 1 := by simp
    have hnum := Num_any none 0 0 [] 4 (some ⟨w0.heap.size, 0, none⟩) 1 1 [m] (w0.alloc (.cells #[.int .u64 (m : Int)] 57)) (by omega) (by omega) (Rd.zero _ _ _) (by rw [hz1']; exact hrdn) (fun i x hx => by
      cases i with
      | zero => simp at hx; omega
      | succ i => simp at hx)
    have hgd : Good 4 [m] := ⟨by omega, by omega, fun i x hx => by
      cases i with
      | zero => simp at hx; rw [show ((4 : Int).toNat) = 4 from rfl]; omega
      | succ i => simp at hx⟩
    have hrdk := hrd.below hM1.old
    clear hpl hy hM0 hal hz1' hrdn hids hku
    go_wp2_with fail
    refine hnum.mono ?_
    intro e w2 hp
    obtain ⟨A2, n2, c2, he, hown2, hnc2, Hn2, hb2⟩ := hp.yes hgd
    subst he
    have hn24 : n2 = 4 := by rw [Hn2.out]; rfl
    subst hn24
    have hM2 := hM1.call hb2
    have hr2 : Rd w2 w2.heap.size A2 4 ((be 4 m).map bv) := by
      have := Rd.of_own hown2
      simpa [nums] using this
    have hrk2 := hrdk.below (hb2.mono hM1.old.size)
    clear hM1 hnum hp hown2 hb2 hrdk
    have halT := (d_al w2 (.cells #[.int .u8 108, .int .u8 101, .int .u8 97, .int .u8 102] 5 (4, 4 + 1)))
    have hrL := rd_marked w2 5 #[.int .u8 108, .int .u8 101, .int .u8 97, .int .u8 102] (4, 4 + 1) (n := 4) rfl
    have hz3 : (w2.alloc (.cells #[.int .u8 108, .int .u8 101, .int .u8 97, .int .u8 102] 5 (4, 4 + 1))).heap.size = w2.heap.size + 1 := by simp
    have hM3 := hM2.call halT
    obtain ⟨w3, hw3⟩ : ∃ w3, w3 = w2.alloc (.cells #[.int .u8 108, .int .u8 101, .int .u8 97, .int .u8 102] 5 (4, 4 + 1)) := ⟨_, rfl⟩
    have hal4 := d_al w3 (.cells #[.slice (some ⟨w2.heap.size, 0, none⟩) 4 4, .slice A2 4 c2, .slice (some ⟨bp, op + j * 32, none⟩) 32 32] 41)
    rw [← hw3] at hz3 halT hrL hM3
    have hws : w.heap.size ≤ w2.heap.size := hM2.old.size
    have hz4 : (w3.alloc (.cells #[.slice (some ⟨w2.heap.size, 0, none⟩) 4 4, .slice A2 4 c2, .slice (some ⟨bp, op + j * 32, none⟩) 32 32] 41)).heap.size = w2.heap.size + 2 := by simp only [World.size_alloc]; omega
    have htx : Txs (w3.alloc (.cells #[.slice (some ⟨w2.heap.size, 0, none⟩) 4 4, .slice A2 4 c2, .slice (some ⟨bp, op + j * 32, none⟩) 32 32] 41)) (w2.heap.size + 2) [.slice (some ⟨w2.heap.size, 0, none⟩) 4 4, .slice A2 4 c2, .slice (some ⟨bp, op + j * 32, none⟩) 32 32] pn := by
      rw [Hpl.out]
      refine txs_consT rfl (by omega) ((hrL.below (hal4.mono (by omega))).more (by omega)) (txs_consT (be_length _ _) hnc2 (((hr2.below halT).below (hal4.mono (by omega))).more (by omega)) (txs_consT Hkl.out (by omega) (((hrk2.below (halT.mono hws)).below (hal4.mono (by omega))).more (by omega)) (Txs.nil _ _)))
    have hrv : Rd (w3.alloc (.cells #[.slice (some ⟨w2.heap.size, 0, none⟩) 4 4, .slice A2 4 c2, .slice (some ⟨bp, op + j * 32, none⟩) 32 32] 41)) (w2.heap.size + 2) (some ⟨w2.heap.size + 1, 0, none⟩) 3 [.slice (some ⟨w2.heap.size, 0, none⟩) 4 4, .slice A2 4 c2, .slice (some ⟨bp, op + j * 32, none⟩) 32 32] := Rd.mk_ _ _ _ hz3 (by omega) rfl rfl
    have hM4 := hM3.call hal4
    have htext := Text_any none 0 0 [] (some ⟨w2.heap.size + 1, 0, none⟩) 3 3 _ pn _ (by omega) (by omega) (Rd.zero _ _ _) (by rw [hz4]; exact hrv) (by rw [hz4]; exact htx)
    have hold4 := hM4.old
    clear hM3 hM2 hrL htx hrv hal4 hz4 hr2 hrk2 halT hM4 hrd
    subst hw3
    go_wp2_with fail
    refine htext.mono ?_
    intro e w5 hp
    obtain ⟨A5, n5, c5, he, hown5, hnc5, Hn5, hb5⟩ := hp.yes Hgood.out
    subst he
    have HF := Lib.hid (Hpost.out w5 A5 n5 c5 (by simpa using Hn5.out) (own_lower hown5 hold4.size) hnc5 (hold4.trans (hb5.mono hold4.size)))
    clear htext hown5 hb5 hp hold4
    go_wp2_with fail
    exact HF.out
  · have zl : ¬ ((x.lev : Nat) : Int) = 0 := by omega
    have zl2 : (((x.lev : Nat) : Int) == 0) = false := by rw [beq_eq_false_iff_ne]; exact zl
    have hred := (hM0.get 0 rfl).cell (i := 2) (v := .bool x.red) rfl
    have hkc := (hM0.get 0 rfl).cell (i := 5) (v := .slice Au x.kids.length cu) rfl
    obtain ⟨lab, hlab⟩ : ∃ lab, lab = (if x.red = true then redTag else nodeTag) := ⟨_, rfl⟩
    have hcase : ∃ st : ByteArray, strB st = lab ∧ ((x.red = true ∧ st = ⟨#[114, 101, 100]⟩) ∨ (x.red = false ∧ st = ⟨#[110, 111, 100, 101]⟩)) := by
      cases hr : x.red
      · exact ⟨⟨#[110, 111, 100, 101]⟩, by rw [hlab, hr]; rfl, .inr ⟨rfl, rfl⟩⟩
      · exact ⟨⟨#[114, 101, 100]⟩, by rw [hlab, hr]; rfl, .inl ⟨rfl, rfl⟩⟩
    have Hpl := Lib.hid (show pn = lab :: ky :: x.kids.map (keyI out) by rw [Hpn.out, partsN, if_neg hl0, Hky.out, hlab])
    clear hlab
    obtain ⟨st, hstb, hcase⟩ := hcase
    obtain ⟨cf, wf, hcv, hcw⟩ := conv_any st
    obtain ⟨hC1, hC2, hC3, hC4⟩ := hcw w0
    obtain ⟨nst, hnst⟩ : ∃ nst, nst = st.size := ⟨_, rfl⟩
    have hll : lab.length = nst := by rw [← hstb, strB_len, hnst]
    rw [hstb] at hC2
    simp only [← hnst] at hcv hC1 hC2
    obtain ⟨c1, hc1⟩ : ∃ c1, c1 = cf w0 := ⟨_, rfl⟩
    have hcv0 := hcv w0
    rw [← hc1] at hcv0 hC1
    have hal := d_al (wf w0) (.cells #[.slice (some ⟨w0.heap.size, 0, none⟩) nst c1, .slice (some ⟨bp, op + j * 32, none⟩) 32 32] 41)
    have hM2 := (hM0.call hC3).call hal
    have hrk := hrd.below hM2.old
    have hbp2 : bp < w0.heap.size := Nat.lt_of_lt_of_le hbp hM0.old.size
    have hot := own_new (wf w0) w0.heap.size 41 #[.slice (some ⟨w0.heap.size, 0, none⟩) nst c1, .slice (some ⟨bp, op + j * 32, none⟩) 32 32] (by omega) (by simp [maxLen])
    have hz2 : ((wf w0).alloc (.cells #[.slice (some ⟨w0.heap.size, 0, none⟩) nst c1, .slice (some ⟨bp, op + j * 32, none⟩) 32 32] 41)).heap.size = w0.heap.size + 2 := by simp only [World.size_alloc]; omega
    have htx : TxP ((wf w0).alloc (.cells #[.slice (some ⟨w0.heap.size, 0, none⟩) nst c1, .slice (some ⟨bp, op + j * 32, none⟩) 32 32] 41)) (some (w0.heap.size + 1)) [.slice (some ⟨w0.heap.size, 0, none⟩) nst c1, .slice (some ⟨bp, op + j * 32, none⟩) 32 32] [lab, ky] := by
      have h1 := TxP.snoc (w := (wf w0).alloc (.cells #[.slice (some ⟨w0.heap.size, 0, none⟩) nst c1, .slice (some ⟨bp, op + j * 32, none⟩) 32 32] 41)) (own := some (w0.heap.size + 1)) (vs := []) (ts := []) (t := lab) (A := some ⟨w0.heap.size, 0, none⟩) (c := c1) ⟨rfl, fun i v t h => by simp at h⟩ (by omega) (by rw [hll]; exact (hC2.below hal).more hal.size) (fun b o e => by
        injection e with e
        injection e with e _
        subst e
        exact ⟨by simp, by omega⟩)
      have h2 := h1.snoc (t := ky) (A := some ⟨bp, op + j * 32, none⟩) (c := 32) (by rw [Hkl.out]; omega) (by rw [Hkl.out]; exact hrk.more hM2.old.size) (fun b o e => by
        injection e with e
        injection e with e _
        subst e
        exact ⟨by intro h; injection h with h; omega, by omega⟩)
      rw [hll, Hkl.out] at h2
      exact h2
    rw [hC4] at hot
    have hws0 := hM0.old.size
    clear hC1 hC2 hC3 hal hrk hcw hM0
    have hx3' := hx3
    rcases hcase with ⟨hrb, hst⟩ | ⟨hrb, hst⟩ <;> (
      rw [hrb] at hred
      rw [hst] at hcv0
      clear hst hcv hnst hc1 hstb
      go_upto_region 11 with fail
      try simp only [Act.put]
      obtain ⟨pQ, hpQ⟩ : ∃ q, q = w0.heap.size := ⟨_, rfl⟩
      rw [← hpQ] at hM2 hot htx ⊢
      refine wp_gen (fun wx => Ms w wx [(g + 1, 68, (riC x.i (.slice Au x.kids.length cu)).toArray), (g, 28, tgV kind Ai ni ci Al nl cl (some ⟨bp, op, none⟩) np cp)] ∧ wx.ownsRow pQ 41 1 (.slice (some ⟨pQ + 1, 0, none⟩) 2 2) 2 [.slice (some ⟨pQ, 0, none⟩) nst c1, .slice (some ⟨bp, op + j * 32, none⟩) 32 32] ∧ TxP wx (some (pQ + 1)) [.slice (some ⟨pQ, 0, none⟩) nst c1, .slice (some ⟨bp, op + j * 32, none⟩) 32 32] [lab, ky]) ⟨hM2, hot, htx⟩ ?_
      have hpq : w.heap.size ≤ pQ := by rw [hpQ]; exact hws0
      have HpQ := Lib.hid hpQ
      clear hM2 hot htx hpQ hcv0 hC4 hz2 c3 hlev hred
      rintro w4 ⟨hM4, hot, htx⟩
      have hkids := (hM4.get 0 rfl).cell (i := 5) (v := .slice Au x.kids.length cu) rfl
      have hold4 := hM4.old
      clear hM4
      go_wp2_with fail
      go_loopw [14, 16, 58] (fun v14 _ v58 wy => ∃ (q : Nat) (A : Option Addr) (c : Nat) (vs : List Value), q ≤ x.kids.length ∧ v58 = .int .i64 (q : Int) ∧ v14 = .slice A (2 + q) c ∧ wy.ownsRow pQ 41 1 (.slice A (2 + q) c) (2 + q) vs ∧ TxP wy (Value.slice A (2 + q) c).ownBlock vs ([lab, ky] ++ (x.kids.take q).map (keyI out)) ∧ Below w.heap.size w wy ∧ pQ ≤ wy.heap.size) (fun _ _ v58 _ => x.kids.length - (intOf v58).toNat)
      case atStart => exact ⟨0, _, _, _, by omega, rfl, rfl, hot, htx, hold4, by have := (hot.lt (pQ + 1) rfl).2; omega⟩
      case round =>
        clear hot htx hold4 hkids
        obtain ⟨q, Av, cv, vs, hq, rfl, rfl, HP, HT, HB, hqz⟩ := hrel
        by_cases hqn : q < x.kids.length
        · obtain ⟨bk, ok, y, rfl, hbk, hy, q0⟩ := rdI_num (hku.below HB) hqn
          have hky : x.kids[q]? = some x.kids[q] := List.getElem?_eq_getElem hqn
          obtain rfl : y = ((x.kids[q] : Nat) : Int) := by
            have : (castL x.kids)[q]? = some ((x.kids[q] : Nat) : Int) := by rw [castL, List.getElem?_map, hky]; rfl
            rw [this] at hy
            exact (Option.some.inj hy).symm
          have hkj := hk _ (List.getElem_mem hqn)
          have HE := Lib.hid (show [lab, ky] ++ (x.kids.take (q + 1)).map (keyI out) = [lab, ky] ++ (x.kids.take q).map (keyI out) ++ [keyI out x.kids[q]] by
            rw [List.take_succ_eq_append_getElem hqn, List.map_append]
            simp only [List.map_cons, List.map_nil, List.append_assoc])
          generalize x.kids[q] = k at *
          obtain ⟨bo, oo, rfl, hbo, hro⟩ := (hs.below HB).range hkj
          have hk32 := keyI_len hs.len hkj
          have hrk := rd_key hbo hk32 hro
          have zq : (q : Int) < (x.kids.length : Int) := by omega
          have zk : (k : Int) < (js : Int) := by omega
          have ht7 := HT.snoc (t := keyI out k) (A := some ⟨bo, oo + k * 32, none⟩) (c := 32) (by omega) (by rw [hk32]; exact hrk.more HB.size) (fun b o e => by
            injection e with e
            injection e with e _
            subst e
            have := Hg.out
            exact ⟨fun h => by have := (HP.lt _ h).1; omega, Nat.lt_of_lt_of_le hbo HB.size⟩)
          rw [hk32] at ht7
          have hal7 := d_al wr (.cells #[.slice (some ⟨bo, oo + k * 32, none⟩) 32 32] 41)
          have ht8 := ht7.below hal7
          have ho8 := own_below HP hal7
          have hz8 : (wr.alloc (.cells #[.slice (some ⟨bo, oo + k * 32, none⟩) 32 32] 41)).heap.size = wr.heap.size + 1 := by simp
          have hone8 : ∀ u ∈ [Value.slice (some ⟨bo, oo + k * 32, none⟩) 32 32], u.oneCell' = true := by intro u hu; simp at hu; subst hu; rfl
          have hjs8 : js ≤ cs := hs.hnc
          clear hy hky hro hrk
          go_wp2_with (at_builtin; refine wpList_append_rd _ rfl (.tmp 62) (.tmp 67) _ rfl pQ 41 i1 _ 24 Tryd.underlying71 hi1 hy0 hy1 hy2 rfl (.slice Av (2 + q) cv) (2 + q) vs rfl ho8 (wr.heap.size + 1) (some ⟨wr.heap.size, 0, none⟩) 1 1 [.slice (some ⟨bo, oo + k * 32, none⟩) 32 32] rfl (Rd.mk_ _ _ _ rfl (by omega) rfl rfl) hone8 (by simp only [maxLen]; omega) (by omega) (by rw [hz8]; omega) ?_; intro v8 w8 hown8 hgr8 hat8)
          go_roundw
          case rel =>
            obtain ⟨A8, c8, rfl, _, _⟩ := own_form hown8
            refine ⟨q + 1, A8, c8, _, by omega, by go_num, rfl, hown8, ?_, (HB.trans (hal7.mono HB.size)).grown hgr8 (Nat.le_trans HB.size hal7.size) (fun z hz => by
              have := (ho8.lt z hz).1
              omega), Nat.le_trans hqz (Nat.le_trans hal7.size hgr8.size)⟩
            rw [HE.out]
            exact ht8.grown hgr8 hat8
          case measure => simp [intOf]; omega
        · obtain rfl : q = x.kids.length := by omega
          rw [List.take_length, show [lab, ky] ++ x.kids.map (keyI out) = pn by rw [Hpl.out]; rfl] at HT
          have hrv := Rd.of_own HP
          have htext := Text_any none 0 0 [] Av (2 + x.kids.length) cv vs pn wr (by omega) (by omega) (Rd.zero _ _ _) hrv HT.txs
          clear HP HT hrv
          go_wp2_with fail
          refine htext.mono ?_
          intro e w5 hp
          obtain ⟨A5, n5, c5, he, hown5, hnc5, Hn5, hb5⟩ := hp.yes Hgood.out
          subst he
          have HF := Lib.hid (Hpost.out w5 A5 n5 c5 (by simpa using Hn5.out) (own_lower hown5 HB.size) hnc5 (HB.trans (hb5.mono HB.size)))
          clear htext hown5 hb5 hp HB
          go_wp2_with fail
          exact HF.out)

end Go.Proofs.YtlidhdljgnijaaaDoor

/-
  CONTRACTS of the program's tag.Sums and tag.Sum.
-/
set_option linter.unusedVariables false
namespace Go.Proofs.YtlidhdljgnijaaaDoor
open Go.RowKit

set_option maxRecDepth 100000 in
set_option maxHeartbeats 8000000 in
theorem PSums13 (kind : Int) (Ai : Option Addr) (ni ci : Nat) (Al : Option Addr) (nl cl : Nat) (ids : List Int) (ll : List (List Int)) (Ap : Option Addr) (np cp : Nat) (ps : List UInt8) (w : World) (h : TgR w w.heap.size Ai ni ci Al nl cl ids ll Ap np cp ps) (hf : fewT ids ll = true) (hK : CTab w) :
    Calls Tryd.prog 11 #[.agg (tgV kind Ai ni ci Al nl cl Ap np cp)] w (SumsPost w (okG kind ids ll np ps) np (sumsT kind ids ll ps np)) := by
  obtain ⟨iK, hiK, hzK, hsK, hbK⟩ := info_parts infoKeyK
  have hM := (Ms.nil w).box 28 (tgV kind Ai ni ci Al nl cl Ap np cp)
  have hnf := fun wx (hb : Below w.heap.size w wx) => PNodesOf kind Ai ni ci Al nl cl ids ll Ap np cp ps wx ((h.below hb).more hb.size) hf
  have Hpost := Lib.hid (show (∀ w', Below w.heap.size w w' → okG kind ids ll np ps = false → SumsPost w (okG kind ids ll np ps) np (sumsT kind ids ll ps np) (.returned (.tuple #[.slice none 0 0, .int .i64 1])) w') ∧ (∀ w' A c l, Below w.heap.size w w' → okG kind ids ll np ps = true → w'.ownsRow w.heap.size 36 32 (.slice A np c) np (l.map bv) → l = sumsT kind ids ll ps np → SumsPost w (okG kind ids ll np ps) np (sumsT kind ids ll ps np) (.returned (.tuple #[.slice A np c, .int .i64 0])) w') from
    ⟨fun w' h1 h2 => ⟨h1, .inl ⟨h2, rfl⟩⟩, fun w' A c l h1 h2 h3 h4 => ⟨h1, .inr ⟨h2, A, c, rfl, by rw [← h4]; exact h3⟩⟩⟩)
  generalize SumsPost w (okG kind ids ll np ps) np (sumsT kind ids ll ps np) = PO at *
  go_enter Tryd.func11, Tryd.ntmps11
  go_upto_region 1 with fail
  try simp only [Act.put]
  obtain ⟨g, hg⟩ : ∃ g, g = w.heap.size := ⟨_, rfl⟩
  rw [← hg] at hM ⊢
  refine wp_gen (fun wx => Ms w wx [(g, 28, tgV kind Ai ni ci Al nl cl Ap np cp)]) hM ?_
  clear hM
  have Hg := Lib.hid hg
  clear hg
  rintro w0 hM0
  go_wp2_with ((with_reducible show wpList _ _ _ (⟨some 12, _, _, _, _, _⟩ :: _) _ _); refine wpList_loadC (by kernel_rfl) 28 (.tmp 1) rfl g rfl 28 (tgV kind Ai ni ci Al nl cl Ap np cp) _ (hM0.get 0 rfl) Tryd.underlying28 rfl tgInfo2 ?_)
  refine (hnf _ hM0.old).mono ?_
  rintro e w1 ⟨hb1, ⟨ho, rfl⟩ | ⟨hok, An, cn, he, hN⟩⟩
  · have HF := Lib.hid (Hpost.out.1 w1 (hM0.old.trans (hb1.mono hM0.old.size)) ho)
    clear hM0 hnf hb1
    go_wp2_with fail
    exact HF.out
  obtain ⟨nn, hnn⟩ : ∃ nn, nn = (nodesI kind ids ll).length := ⟨_, rfl⟩
  rw [← hnn] at he hN
  subst he
  have hM1 := hM0.call hb1
  have Hok := Lib.hid hok
  have hmay : mayB kind ids ll = true := by rw [okG, Bool.and_eq_true] at hok; exact hok.1
  have hnp0 : np = nn := by
    rw [okG, Bool.and_eq_true, Bool.and_eq_true, Bool.and_eq_true, decide_eq_true_eq, decide_eq_true_eq] at hok
    rw [hnn]
    exact hok.2.2.1.symm
  have hnp : nn ≤ 2000 := by have h2 := nodesI_le kind ids ll; omega
  have hchk : chkT ids ll = true := by rw [mayB, Bool.and_eq_true] at hmay; exact hmay.2
  have Hids := Lib.hid (okI_mem (chkT_lv hchk).2.1)
  obtain ⟨en, NFn⟩ := nodesG_nf hmay
  have hk3 : ∀ x ∈ nodesG kind ids ll, x.kids.length ≤ 3 := fun x hx => by
    have h1 := nodesI_kids kind ids ll x.i (by rw [en]; exact List.mem_map_of_mem hx)
    simpa [RN.i, castL] using h1
  have Hsum := Lib.hid (show sumsT kind ids ll ps np = sumsJ (nodesG kind ids ll) ids ps np from rfl)
  rw [en] at hN hnn
  rw [List.length_map] at hnn
  generalize nodesG kind ids ll = L at *
  subst hnp0
  have hcn := hN.cap
  unfold maxLen at hcn
  have Hnn := Lib.hid hnn
  have HNF := Lib.hid NFn
  have Hk3 := Lib.hid hk3
  have hR := hM1.get 0 rfl
  have hold := hM1.old
  have hT := h.below hold
  have hK1 := hK.below hold
  have hw1 := hold.size
  clear hM0 hM1 hnf hb1 hok hmay hchk en hnn NFn hk3 h hK
  go_upto_region 5 with (at_make; refine wpList_make_own _ rfl _ _ 26 rfl w1.heap.size 36 iK _ 32 Tryd.underlying26 hiK hzK hsK _ _ _ np rfl rfl (by simp) (by rw [hbK]; omega) (by simp only [maxLen]; omega) (Nat.le_refl _) ?_; intro w2 hown2 hgr2)
  try simp only [Act.put]
  have hb2 : Below w1.heap.size w1 w2 := (Below.refl _ _).grown hgr2 (Nat.le_refl _) (by simp)
  clear hgr2
  go_wp2_with fail
  go_loopw [6, 24] (fun v6 v24 wr => ∃ (j : Nat) (A : Option Addr) (c : Nat), j ≤ np ∧ v24 = .int .i64 (j : Int) ∧ v6 = .slice A j c ∧ wr.ownsRow w1.heap.size 36 32 (.slice A j c) j ((sumsJ L ids ps j).map bv) ∧ Below w1.heap.size w1 wr) (fun _ v24 _ => np - (intOf v24).toNat)
  case atStart => exact ⟨0, _, _, by omega, rfl, rfl, hown2, hb2⟩
  case round =>
    clear hown2 hb2
    obtain ⟨j, A, c, hj, rfl, rfl, hown, hb⟩ := hrel
    by_cases hjn : j < np
    · have hjl : j < L.length := by have := Hnn.out; omega
      have hx := List.getElem?_eq_getElem hjl
      obtain ⟨bn, on, Au, cu, rfl, hbn, hrn, hcu, hmu, hku⟩ := hN.range (k := j) (x := (L[j]).i) (by rw [List.getElem?_map, hx]; rfl)
      have Hkk := Lib.hid (show ∀ k ∈ L[j].kids, k < j from fun k hk => (HNF.out.kidUp hx hk).choose_spec.2.2)
      have Hx3 := Lib.hid (Hk3.out _ (List.getElem_mem hjl))
      have Hlf := Lib.hid (show L[j].lev = 0 → L[j].at_ < ids.length from fun e => (HNF.out.leafAt hx e).2.2)
      have Hsl := Lib.hid (sumsJ_len L ids ps j (by omega))
      have Hsn := Lib.hid (sumsJ_succ hx ids ps)
      generalize L[j] = x at *
      have hrn := rangeW hrn hbn hb
      have hkul : x.i.kids.length = x.kids.length := castL_len x.kids
      rw [hkul] at hrn hcu hku
      have zj : (j : Int) < (np : Int) := by omega
      have hsn : (Tryd.prog.info? 68).map (·.size) = some (riC x.i (.slice Au x.kids.length cu)).length := by kernel_rfl
      have hput := ((Ms.nil wr).put 68 #[.int .i64 0, .int .i64 0, .bool false, .int .i64 0, .int .i64 0, .slice none 0 0, .int .i64 0] (riC x.i (.slice Au x.kids.length cu)).toArray)
      have hRr := hR.call hb
      have hTr := hT.below (hb.mono hw1)
      have hKr := hK1.below hb
      go_upto_region 8 with (first
        | ((with_reducible show wpList _ _ _ (⟨some 28, _, _, _, _, _⟩ :: _) _ _); refine wpList_load_midG (by kernel_rfl) 68 (.tmp 27) rfl bn (on + j * 7) rfl (riC x.i (.slice Au x.kids.length cu)) _ hrn Tryd.underlying68 rfl hsn ?_)
        | ((with_reducible show wpList _ _ _ (⟨none, Op.store 68 _ _, _, _, _, _⟩ :: _) _ _); refine wpList_store_row rfl 68 (.tmp 8) (.tmp 28) rfl wr.heap.size (riC x.i (.slice Au x.kids.length cu)).toArray rfl rfl 68 _ (RowC.new _ _ _) (by simpa using hsn) rfl (by simp [riC, Value.oneCell']) ?_))
      try simp only [Act.put]
      obtain ⟨gx, hgx⟩ : ∃ q, q = wr.heap.size := ⟨_, rfl⟩
      have Hgx := Lib.hid hgx
      rw [← hgx] at hput ⊢
      refine wp_gen (fun wx => Ms wr wx [(gx, 68, (riC x.i (.slice Au x.kids.length cu)).toArray)]) hput ?_
      clear hput hrn hgx
      rintro wa hMa
      have hba := hb.trans (hMa.old.mono hb.size)
      have hTa := hTr.below (hMa.old.mono (Nat.le_trans hw1 hb.size))
      have hRa := hRr.call hMa.old
      have howna := own_below hown hMa.old
      have hkua := (hku.below hba).more hba.size
      have hwa : w.heap.size ≤ wa.heap.size := Nat.le_trans hw1 hba.size
      have hsm := PSummed13 kind Ai ni ci Al nl cl ids ll Ap np cp ps x Au cu j A j c (sumsJ L ids ps j) wa (hTa.more hwa) hjn hnp (by omega) Hx3.out Hlf.out Hids.out Hkk.out hkua (KyR.of_own howna)
      have hrowx := hMa.get 0 rfl
      obtain ⟨hps1, hps2⟩ := parts_short (sumsJ L ids ps j) ids ps j x Hx3.out
      obtain ⟨htl, _⟩ := txs_le32 (partsN (sumsJ L ids ps j) ids ps j x) hps1
      have Hsn2 := Lib.hid (show sumsJ L ids ps (j + 1) = sumsJ L ids ps j ++ sumU (txs (partsN (sumsJ L ids ps j) ids ps j x)) from Hsn.out)
      generalize txs (partsN (sumsJ L ids ps j) ids ps j x) = tx at *
      have Htl := Lib.hid (show tx.length ≤ 170 by omega)
      obtain ⟨s, hs⟩ : ∃ q, q = sumU tx := ⟨_, rfl⟩
      have hsl : s.length = 32 := by rw [hs]; exact sumU_len _
      have Hs := Lib.hid hs
      have Hfd := Lib.hid (fold_keyK hsl)
      clear hs hps1 hps2 htl hTr hRr hMa hkul hcu hmu hku hkua
      have hKa := hK1.below hba
      have hszx : (Tryd.prog.info? 68).map (·.size) = some (riC x.i (.slice Au x.kids.length cu)).toArray.size := by kernel_rfl
      go_wp2_with (first
        | ((with_reducible show wpList _ _ _ (⟨some 30, _, _, _, _, _⟩ :: _) _ _); refine wpList_loadC (by kernel_rfl) 28 (.tmp 1) rfl g rfl 28 (tgV kind Ai ni ci Al nl cl Ap np cp) _ hRa Tryd.underlying28 rfl tgInfo2 ?_)
        | ((with_reducible show wpList _ _ _ (⟨some 31, _, _, _, _, _⟩ :: _) _ _); refine wpList_loadC (by kernel_rfl) 68 (.tmp 8) rfl gx rfl 68 (riC x.i (.slice Au x.kids.length cu)).toArray _ hrowx Tryd.underlying68 rfl hszx ?_))
      refine hsm.mono ?_
      rintro e wb ⟨At, ct, rfl, hot, hntc, hbt⟩
      have hbb := hba.trans (hbt.mono hba.size)
      have hownb := own_below howna hbt
      have hKb := hKa.below hbt
      have hal := d_al wb (.cells #[.slice At tx.length ct] 41)
      have hbc := c_call hbb hal
      have hownc := own_below hownb hal
      have hKc := hKb.below hal
      have hzc : (wb.alloc (.cells #[.slice At tx.length ct] 41)).heap.size = wb.heap.size + 1 := by simp
      have hrd := Rd.mk_ wb 41 #[.slice At tx.length ct] (b := wb.heap.size) (B := wb.heap.size + 1) (n := 1) rfl (by omega) rfl rfl
      have htE := Txs.one (w := wb.alloc (.cells #[.slice At tx.length ct] 41)) (B := wb.heap.size) ((Rd.of_own hot).below hal) hntc
      have hsum := pSum_any (some ⟨wb.heap.size, 0, none⟩) 1 1 [.slice At tx.length ct] [tx] _ (by omega) (by have := Htl.out; simp; omega) (by rw [hzc]; exact hrd) (by rw [hzc]; exact htE.more (by omega)) hKc
      rw [show sumU [tx].flatten = s by rw [Hs.out]; simp, show (s.map bv).toArray = keyC s from rfl] at hsum
      have hks : (keyC s).size = 32 := by rw [keyC_size, hsl]
      clear hsm hot hrd htE hal hownb hKb hKc hbb hRa hrowx howna hTa hKa hKr hba hbt hb hown
      go_wp2_with fail
      refine hsum.mono ?_
      rintro e wF ⟨rfl, hbF⟩
      have hbF1 := hbc.trans (hbF.mono hbc.size)
      have halF := d_al wF (.cells (keyC s) 36)
      have hbF2 := c_call hbF1 halF
      have hownF := own_below (own_below hownc hbF) halF
      have hrF : Rd (wF.alloc (.cells (keyC s) 36)) (wF.heap.size + 1) (some ⟨wF.heap.size, 0, none⟩) (1 * 32) (s.map bv) := Rd.mk_ _ _ _ rfl (by omega) (by rw [hks]) (by simp [keyC])
      have hfd := Hfd.out
      have hszF : w1.heap.size ≤ (wF.alloc (.cells (keyC s) 36)).heap.size := hbF2.size
      clear hsum hownc hbc hbF halF hbF1
      go_wp2_with (at_builtin; refine wpList_append_ky _ (by kernel_rfl) (.tmp 40) (.tmp 44) _ rfl w1.heap.size 36 iK _ 32 32 Tryd.underlying26 hiK hzK hsK hbK rfl (by omega) (.slice A j c) j _ rfl hownF (wF.heap.size + 1) (some ⟨wF.heap.size, 0, none⟩) 1 1 (s.map bv) rfl hrF (one_bv _) (by simp only [maxLen]; omega) (by omega) hszF ?_; intro v5 w5 hown5 hgr5 hat5; obtain ⟨A5, c5, rfl, _, _⟩ := own_slK hown5)
      go_roundw
      case rel =>
        refine ⟨j + 1, A5, c5, by omega, by go_num, rfl, ?_, hbF2.grown hgr5 hszF (fun q hq => (hownF.lt q hq).1)⟩
        rw [Hsn2.out, ← Hs.out, List.map_append]
        exact hown5
      case measure => simp [intOf]; omega
    · obtain rfl : j = np := by omega
      have HF := Lib.hid (Hpost.out.2 wr A c _ (hold.trans (hb.mono hw1)) Hok.out (own_lowK hown hw1) Hsum.out.symm)
      clear hown hb
      go_wp2_with fail
      exact HF.out

end Go.Proofs.YtlidhdljgnijaaaDoor

