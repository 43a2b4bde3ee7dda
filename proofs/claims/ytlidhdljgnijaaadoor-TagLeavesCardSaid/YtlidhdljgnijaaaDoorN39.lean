import Derived.Test.YtlidhdljgnijaaaDoorN37
import Derived.Test.YtlidhdljgnijaaaDoorN22
import Derived.Test.YtlidhdljgnijaaaDoorN23
import Derived.Test.YtlidhdljgnijaaaDoorN38
import Derived.Test.YtlidhdljgnijaaaDoorN31
import Derived.Test.YtlidhdljgnijaaaDoorN29
import Derived.Lib.SlBytesConst
import Derived.Test.YtlidhdljgnijaaaDoorN30
import Derived.Test.YtlidhdljgnijaaaDoorN26
import Derived.Test.YtlidhdljgnijaaaDoorN21
import Derived.Test.YtlidhdljgnijaaaDoorN04
import Derived.Test.YtlidhdljgnijaaaDoorN35
/-
  CONTRACT of the program's tag.summedUp: what a node's sum is of.
-/
set_option linter.unusedVariables false
namespace Go.Proofs.YtlidhdljgnijaaaDoor
open Go.RowKit

theorem rd_key {w : World} {B b o : Nat} {k : List UInt8} (hb : b < B) (hk : k.length = 32) (h : w.rangeAt b o (keyC k).toList) : Rd w B (some ⟨b, o, none⟩) 32 (k.map bv) :=
  ⟨by simpa using hk, fun _ => ⟨b, o, rfl, hb, fun z u hu => h z u (by simpa [keyC] using hu)⟩⟩
theorem txs_consT {w : World} {B : Nat} {A : Option Addr} {n c : Nat} {t : List UInt8} {vs : List Value} {ts : List (List UInt8)} (ht : t.length = n) (hc : n ≤ c) (hr : Rd w B A n (t.map bv)) (h : Txs w B vs ts) : Txs w B (.slice A n c :: vs) (t :: ts) := by
  subst ht
  exact (Txs.one hr hc).append h

set_option maxRecDepth 100000 in
set_option maxHeartbeats 2000000 in
theorem PSummed13 (kind : Int) (Ai : Option Addr) (ni ci : Nat) (Al : Option Addr) (nl cl : Nat) (ids : List Int) (ll : List (List Int)) (Ap : Option Addr) (np cp : Nat) (ps : List UInt8) (x : RN) (Au : Option Addr) (cu j : Nat) (As : Option Addr) (js cs : Nat) (out : List UInt8) (w : World) (h : TgR w w.heap.size Ai ni ci Al nl cl ids ll Ap np cp ps)
    (hj : j < np) (hnp : np ≤ 2000) (hjs : js ≤ 2000) (hx3 : x.kids.length ≤ 3) (hlf : x.lev = 0 → x.at_ < ids.length) (hids : ∀ y ∈ ids, 0 ≤ y ∧ y ≤ 1048576) (hk : ∀ k ∈ x.kids, k < js) (hku : Rd w w.heap.size Au x.kids.length ((castL x.kids).map iv)) (hs : KyR w w.heap.size As js cs out) :
    Calls Tryd.prog 36 #[.agg (tgV kind Ai ni ci Al nl cl Ap np cp), .agg (riC x.i (.slice Au x.kids.length cu)).toArray, .int .i64 (j : Int), .slice As js cs] w fun e w' =>
      ∃ A c, e = .returned (.tuple #[.slice A (txs (partsN out ids ps j x)).length c, .int .i64 0]) ∧ w'.ownsRow w.heap.size 5 1 (.slice A (txs (partsN out ids ps j x)).length c) (txs (partsN out ids ps j x)).length ((txs (partsN out ids ps j x)).map bv) ∧ (txs (partsN out ids ps j x)).length ≤ c ∧ Below w.heap.size w w' := by
  obtain ⟨i0, hi0, hz0, hz1, hz2⟩ := info_parts byteInfo
  obtain ⟨i1, hi1, hy0, hy1, hy2⟩ := info_parts textInfo
  have hM := ((Ms.nil w).box 28 (tgV kind Ai ni ci Al nl cl Ap np cp)).box 68 (riC x.i (.slice Au x.kids.length cu)).toArray
  simp only [World.size_alloc] at hM
  obtain ⟨pn, hpn⟩ : ∃ q, q = partsN out ids ps j x := ⟨_, rfl⟩
  obtain ⟨hps1, hps2⟩ := parts_short out ids ps j x hx3
  rw [← hpn] at hps1 hps2
  obtain ⟨htl, hgood⟩ := txs_le32 pn hps1
  have Htl := Lib.hid (show (txs pn).length ≤ 170 by omega)
  have Hgood := Lib.hid hgood
  rw [← hpn]
  have Hpost := Lib.hid (show ∀ w' (A : Option Addr) (n c : Nat), n = (txs pn).length → w'.ownsRow w.heap.size 5 1 (.slice A n c) n (([] ++ txs pn).map bv) → n ≤ c → Below w.heap.size w w' → (fun e w' => ∃ A c, e = Ending.returned (Value.tuple #[.slice A (txs pn).length c, .int .i64 0]) ∧ w'.ownsRow w.heap.size 5 1 (.slice A (txs pn).length c) (txs pn).length ((txs pn).map bv) ∧ (txs pn).length ≤ c ∧ Below w.heap.size w w') (.returned (.tuple #[.slice A n c, .int .i64 0])) w' from fun w' A n c h1 h2 h3 h4 => by
    subst h1
    exact ⟨A, c, rfl, h2, h3, h4⟩)
  generalize (fun e w' => ∃ A c, e = Ending.returned (Value.tuple #[.slice A (txs pn).length c, .int .i64 0]) ∧ w'.ownsRow w.heap.size 5 1 (.slice A (txs pn).length c) (txs pn).length ((txs pn).map bv) ∧ (txs pn).length ≤ c ∧ Below w.heap.size w w') = PO at *
  have Hpn := Lib.hid hpn
  clear hpn hps1 hps2 htl hgood
  obtain ⟨bp, op, rfl, hbp, hrp⟩ := h.pts.range hj
  have hkl := keyI_len h.pts.len hj
  have hrd := rd_key hbp hkl hrp
  obtain ⟨ky, hky⟩ : ∃ ky, ky = keyI ps j := ⟨_, rfl⟩
  rw [← hky] at hkl hrd
  clear hrp
  have Hky := Lib.hid hky
  have Hkl := Lib.hid hkl
  have HS := Lib.hid h.sh
  have zj : (j : Int) < (np : Int) := by omega
  have hpm : np ≤ cp := h.pts.hnc
  have hpm2 : cp ≤ maxLen := h.pts.hcm
  unfold maxLen at hpm2
  clear h hky hkl
  have kc := fun (w : World) (C : Array Value) (n c : Nat) => Lib.run_convert_bytes_const (P := Tryd.prog) w 41 5 C n c Tryd.underlying41 Tryd.underlying5
  go_enter Tryd.func36, Tryd.ntmps36
  go_upto_region 1 with fail
  try simp only [Act.put]
  obtain ⟨g, hg⟩ : ∃ g, g = w.heap.size := ⟨_, rfl⟩
  rw [← hg] at hM ⊢
  refine wp_gen (fun wx => Ms w wx [(g + 1, 68, (riC x.i (.slice Au x.kids.length cu)).toArray), (g, 28, tgV kind Ai ni ci Al nl cl (some ⟨bp, op, none⟩) np cp)]) hM ?_
  have Hg := Lib.hid hg
  clear hM hg
  rintro w0 hM0
  have c3 := (hM0.get 1 rfl).cell (i := 3) (v := .slice (some ⟨bp, op, none⟩) np cp) rfl
  have hlev := (hM0.get 0 rfl).cell (i := 0) (v := .int .i64 (x.lev : Nat)) rfl
  by_cases hl0 : x.lev = 0
  · have zl : ((x.lev : Nat) : Int) = 0 := by omega
    have hat := hlf hl0
    have c1 := (hM0.get 1 rfl).cell (i := 1) (v := .slice Ai ni ci) rfl
    have hxa := (hM0.get 0 rfl).cell (i := 1) (v := .int .i64 (x.at_ : Nat)) rfl
    have hni := HS.out.hni
    obtain ⟨bi, oi, y, rfl, hbi, hy, hcy⟩ := rdI_num (HS.out.hids.below hM0.old) (k := x.at_) (by omega)
    obtain ⟨hy0', hy1'⟩ := hids y (List.mem_of_getElem? hy)
    obtain ⟨m, rfl⟩ : ∃ m : Nat, y = (m : Int) := ⟨y.toNat, by omega⟩
    have hpl : pn = [leafTag, be 4 m, ky] := by
      rw [Hpn.out, partsN, if_pos hl0, Hky.out, getD_at hy]
      rfl
    have zm : IntKind.u64.wrap (m : Int) = (m : Int) := by rw [IntKind.wrap_u64]; omega
    have zat : ((x.at_ : Nat) : Int) < (ni : Int) := by omega
    have Hpl := Lib.hid hpl
    have hal := d_al w0 (.cells #[.int .u64 (m : Int)] 57)
    have hM1 := hM0.call hal
    have hrdn : Rd (w0.alloc (.cells #[.int .u64 (m : Int)] 57)) (w0.heap.size + 1) (some ⟨w0.heap.size, 0, none⟩) 1 ([m].map qv) := Rd.mk_ _ _ _ rfl (by omega) rfl rfl
    have hz1' : (w0.alloc (.cells #[.int .u64 (m : Int)] 57)).heap.size = w0.heap.size + 1 := by simp
    have hnum := Num_any none 0 0 [] 4 (some ⟨w0.heap.size, 0, none⟩) 1 1 [m] (w0.alloc (.cells #[.int .u64 (m : Int)] 57)) (by omega) (by omega) (Rd.zero _ _ _) (by rw [hz1']; exact hrdn) (fun i x hx => by
      cases i with
      | zero => simp at hx; omega
      | succ i => simp at hx)
    have hgd : Good 4 [m] := ⟨by omega, by omega, fun i x hx => by
      cases i with
      | zero => simp at hx; rw [show ((4 : Int).toNat) = 4 from rfl]; omega
      | succ i => simp at hx⟩
    have hrdk := hrd.below hM1.old
    clear hpl hy hM0 hal hz1' hrdn hids hku
    go_wp2_with fail
    refine hnum.mono ?_
    intro e w2 hp
    obtain ⟨A2, n2, c2, he, hown2, hnc2, Hn2, hb2⟩ := hp.yes hgd
    subst he
    have hn24 : n2 = 4 := by rw [Hn2.out]; rfl
    subst hn24
    have hM2 := hM1.call hb2
    have hr2 : Rd w2 w2.heap.size A2 4 ((be 4 m).map bv) := by
      have := Rd.of_own hown2
      simpa [nums] using this
    have hrk2 := hrdk.below (hb2.mono hM1.old.size)
    clear hM1 hnum hp hown2 hb2 hrdk
    have halT := (d_al w2 (.cells #[.int .u8 108, .int .u8 101, .int .u8 97, .int .u8 102] 5 (4, 4 + 1)))
    have hrL := rd_marked w2 5 #[.int .u8 108, .int .u8 101, .int .u8 97, .int .u8 102] (4, 4 + 1) (n := 4) rfl
    have hz3 : (w2.alloc (.cells #[.int .u8 108, .int .u8 101, .int .u8 97, .int .u8 102] 5 (4, 4 + 1))).heap.size = w2.heap.size + 1 := by simp
    have hM3 := hM2.call halT
    obtain ⟨w3, hw3⟩ : ∃ w3, w3 = w2.alloc (.cells #[.int .u8 108, .int .u8 101, .int .u8 97, .int .u8 102] 5 (4, 4 + 1)) := ⟨_, rfl⟩
    have hal4 := d_al w3 (.cells #[.slice (some ⟨w2.heap.size, 0, none⟩) 4 4, .slice A2 4 c2, .slice (some ⟨bp, op + j * 32, none⟩) 32 32] 41)
    rw [← hw3] at hz3 halT hrL hM3
    have hws : w.heap.size ≤ w2.heap.size := hM2.old.size
    have hz4 : (w3.alloc (.cells #[.slice (some ⟨w2.heap.size, 0, none⟩) 4 4, .slice A2 4 c2, .slice (some ⟨bp, op + j * 32, none⟩) 32 32] 41)).heap.size = w2.heap.size + 2 := by simp only [World.size_alloc]; omega
    have htx : Txs (w3.alloc (.cells #[.slice (some ⟨w2.heap.size, 0, none⟩) 4 4, .slice A2 4 c2, .slice (some ⟨bp, op + j * 32, none⟩) 32 32] 41)) (w2.heap.size + 2) [.slice (some ⟨w2.heap.size, 0, none⟩) 4 4, .slice A2 4 c2, .slice (some ⟨bp, op + j * 32, none⟩) 32 32] pn := by
      rw [Hpl.out]
      refine txs_consT rfl (by omega) ((hrL.below (hal4.mono (by omega))).more (by omega)) (txs_consT (be_length _ _) hnc2 (((hr2.below halT).below (hal4.mono (by omega))).more (by omega)) (txs_consT Hkl.out (by omega) (((hrk2.below (halT.mono hws)).below (hal4.mono (by omega))).more (by omega)) (Txs.nil _ _)))
    have hrv : Rd (w3.alloc (.cells #[.slice (some ⟨w2.heap.size, 0, none⟩) 4 4, .slice A2 4 c2, .slice (some ⟨bp, op + j * 32, none⟩) 32 32] 41)) (w2.heap.size + 2) (some ⟨w2.heap.size + 1, 0, none⟩) 3 [.slice (some ⟨w2.heap.size, 0, none⟩) 4 4, .slice A2 4 c2, .slice (some ⟨bp, op + j * 32, none⟩) 32 32] := Rd.mk_ _ _ _ hz3 (by omega) rfl rfl
    have hM4 := hM3.call hal4
    have htext := Text_any none 0 0 [] (some ⟨w2.heap.size + 1, 0, none⟩) 3 3 _ pn _ (by omega) (by omega) (Rd.zero _ _ _) (by rw [hz4]; exact hrv) (by rw [hz4]; exact htx)
    have hold4 := hM4.old
    clear hM3 hM2 hrL htx hrv hal4 hz4 hr2 hrk2 halT hM4 hrd
    subst hw3
    go_wp2_with fail
    refine htext.mono ?_
    intro e w5 hp
    obtain ⟨A5, n5, c5, he, hown5, hnc5, Hn5, hb5⟩ := hp.yes Hgood.out
    subst he
    have HF := Lib.hid (Hpost.out w5 A5 n5 c5 (by simpa using Hn5.out) (own_lower hown5 hold4.size) hnc5 (hold4.trans (hb5.mono hold4.size)))
    clear htext hown5 hb5 hp hold4
    go_wp2_with fail
    exact HF.out
  · have zl : ¬ ((x.lev : Nat) : Int) = 0 := by omega
    have zl2 : (((x.lev : Nat) : Int) == 0) = false := by rw [beq_eq_false_iff_ne]; exact zl
    have hred := (hM0.get 0 rfl).cell (i := 2) (v := .bool x.red) rfl
    have hkc := (hM0.get 0 rfl).cell (i := 5) (v := .slice Au x.kids.length cu) rfl
    obtain ⟨lab, hlab⟩ : ∃ lab, lab = (if x.red = true then redTag else nodeTag) := ⟨_, rfl⟩
    have hcase : ∃ st : ByteArray, strB st = lab ∧ ((x.red = true ∧ st = ⟨#[114, 101, 100]⟩) ∨ (x.red = false ∧ st = ⟨#[110, 111, 100, 101]⟩)) := by
      cases hr : x.red
      · exact ⟨⟨#[110, 111, 100, 101]⟩, by rw [hlab, hr]; rfl, .inr ⟨rfl, rfl⟩⟩
      · exact ⟨⟨#[114, 101, 100]⟩, by rw [hlab, hr]; rfl, .inl ⟨rfl, rfl⟩⟩
    have Hpl := Lib.hid (show pn = lab :: ky :: x.kids.map (keyI out) by rw [Hpn.out, partsN, if_neg hl0, Hky.out, hlab])
    clear hlab
    obtain ⟨st, hstb, hcase⟩ := hcase
    obtain ⟨cf, wf, hcv, hcw⟩ := conv_any st
    obtain ⟨hC1, hC2, hC3, hC4⟩ := hcw w0
    obtain ⟨nst, hnst⟩ : ∃ nst, nst = st.size := ⟨_, rfl⟩
    have hll : lab.length = nst := by rw [← hstb, strB_len, hnst]
    rw [hstb] at hC2
    simp only [← hnst] at hcv hC1 hC2
    obtain ⟨c1, hc1⟩ : ∃ c1, c1 = cf w0 := ⟨_, rfl⟩
    have hcv0 := hcv w0
    rw [← hc1] at hcv0 hC1
    have hal := d_al (wf w0) (.cells #[.slice (some ⟨w0.heap.size, 0, none⟩) nst c1, .slice (some ⟨bp, op + j * 32, none⟩) 32 32] 41)
    have hM2 := (hM0.call hC3).call hal
    have hrk := hrd.below hM2.old
    have hbp2 : bp < w0.heap.size := Nat.lt_of_lt_of_le hbp hM0.old.size
    have hot := own_new (wf w0) w0.heap.size 41 #[.slice (some ⟨w0.heap.size, 0, none⟩) nst c1, .slice (some ⟨bp, op + j * 32, none⟩) 32 32] (by omega) (by simp [maxLen])
    have hz2 : ((wf w0).alloc (.cells #[.slice (some ⟨w0.heap.size, 0, none⟩) nst c1, .slice (some ⟨bp, op + j * 32, none⟩) 32 32] 41)).heap.size = w0.heap.size + 2 := by simp only [World.size_alloc]; omega
    have htx : TxP ((wf w0).alloc (.cells #[.slice (some ⟨w0.heap.size, 0, none⟩) nst c1, .slice (some ⟨bp, op + j * 32, none⟩) 32 32] 41)) (some (w0.heap.size + 1)) [.slice (some ⟨w0.heap.size, 0, none⟩) nst c1, .slice (some ⟨bp, op + j * 32, none⟩) 32 32] [lab, ky] := by
      have h1 := TxP.snoc (w := (wf w0).alloc (.cells #[.slice (some ⟨w0.heap.size, 0, none⟩) nst c1, .slice (some ⟨bp, op + j * 32, none⟩) 32 32] 41)) (own := some (w0.heap.size + 1)) (vs := []) (ts := []) (t := lab) (A := some ⟨w0.heap.size, 0, none⟩) (c := c1) ⟨rfl, fun i v t h => by simp at h⟩ (by omega) (by rw [hll]; exact (hC2.below hal).more hal.size) (fun b o e => by
        injection e with e
        injection e with e _
        subst e
        exact ⟨by simp, by omega⟩)
      have h2 := h1.snoc (t := ky) (A := some ⟨bp, op + j * 32, none⟩) (c := 32) (by rw [Hkl.out]; omega) (by rw [Hkl.out]; exact hrk.more hM2.old.size) (fun b o e => by
        injection e with e
        injection e with e _
        subst e
        exact ⟨by intro h; injection h with h; omega, by omega⟩)
      rw [hll, Hkl.out] at h2
      exact h2
    rw [hC4] at hot
    have hws0 := hM0.old.size
    clear hC1 hC2 hC3 hal hrk hcw hM0
    have hx3' := hx3
    rcases hcase with ⟨hrb, hst⟩ | ⟨hrb, hst⟩ <;> (
      rw [hrb] at hred
      rw [hst] at hcv0
      clear hst hcv hnst hc1 hstb
      go_upto_region 11 with fail
      try simp only [Act.put]
      obtain ⟨pQ, hpQ⟩ : ∃ q, q = w0.heap.size := ⟨_, rfl⟩
      rw [← hpQ] at hM2 hot htx ⊢
      refine wp_gen (fun wx => Ms w wx [(g + 1, 68, (riC x.i (.slice Au x.kids.length cu)).toArray), (g, 28, tgV kind Ai ni ci Al nl cl (some ⟨bp, op, none⟩) np cp)] ∧ wx.ownsRow pQ 41 1 (.slice (some ⟨pQ + 1, 0, none⟩) 2 2) 2 [.slice (some ⟨pQ, 0, none⟩) nst c1, .slice (some ⟨bp, op + j * 32, none⟩) 32 32] ∧ TxP wx (some (pQ + 1)) [.slice (some ⟨pQ, 0, none⟩) nst c1, .slice (some ⟨bp, op + j * 32, none⟩) 32 32] [lab, ky]) ⟨hM2, hot, htx⟩ ?_
      have hpq : w.heap.size ≤ pQ := by rw [hpQ]; exact hws0
      have HpQ := Lib.hid hpQ
      clear hM2 hot htx hpQ hcv0 hC4 hz2 c3 hlev hred
      rintro w4 ⟨hM4, hot, htx⟩
      have hkids := (hM4.get 0 rfl).cell (i := 5) (v := .slice Au x.kids.length cu) rfl
      have hold4 := hM4.old
      clear hM4
      go_wp2_with fail
      go_loopw [14, 16, 58] (fun v14 _ v58 wy => ∃ (q : Nat) (A : Option Addr) (c : Nat) (vs : List Value), q ≤ x.kids.length ∧ v58 = .int .i64 (q : Int) ∧ v14 = .slice A (2 + q) c ∧ wy.ownsRow pQ 41 1 (.slice A (2 + q) c) (2 + q) vs ∧ TxP wy (Value.slice A (2 + q) c).ownBlock vs ([lab, ky] ++ (x.kids.take q).map (keyI out)) ∧ Below w.heap.size w wy ∧ pQ ≤ wy.heap.size) (fun _ _ v58 _ => x.kids.length - (intOf v58).toNat)
      case atStart => exact ⟨0, _, _, _, by omega, rfl, rfl, hot, htx, hold4, by have := (hot.lt (pQ + 1) rfl).2; omega⟩
      case round =>
        clear hot htx hold4 hkids
        obtain ⟨q, Av, cv, vs, hq, rfl, rfl, HP, HT, HB, hqz⟩ := hrel
        by_cases hqn : q < x.kids.length
        · obtain ⟨bk, ok, y, rfl, hbk, hy, q0⟩ := rdI_num (hku.below HB) hqn
          have hky : x.kids[q]? = some x.kids[q] := List.getElem?_eq_getElem hqn
          obtain rfl : y = ((x.kids[q] : Nat) : Int) := by
            have : (castL x.kids)[q]? = some ((x.kids[q] : Nat) : Int) := by rw [castL, List.getElem?_map, hky]; rfl
            rw [this] at hy
            exact (Option.some.inj hy).symm
          have hkj := hk _ (List.getElem_mem hqn)
          have HE := Lib.hid (show [lab, ky] ++ (x.kids.take (q + 1)).map (keyI out) = [lab, ky] ++ (x.kids.take q).map (keyI out) ++ [keyI out x.kids[q]] by
            rw [List.take_succ_eq_append_getElem hqn, List.map_append]
            simp only [List.map_cons, List.map_nil, List.append_assoc])
          generalize x.kids[q] = k at *
          obtain ⟨bo, oo, rfl, hbo, hro⟩ := (hs.below HB).range hkj
          have hk32 := keyI_len hs.len hkj
          have hrk := rd_key hbo hk32 hro
          have zq : (q : Int) < (x.kids.length : Int) := by omega
          have zk : (k : Int) < (js : Int) := by omega
          have ht7 := HT.snoc (t := keyI out k) (A := some ⟨bo, oo + k * 32, none⟩) (c := 32) (by omega) (by rw [hk32]; exact hrk.more HB.size) (fun b o e => by
            injection e with e
            injection e with e _
            subst e
            have := Hg.out
            exact ⟨fun h => by have := (HP.lt _ h).1; omega, Nat.lt_of_lt_of_le hbo HB.size⟩)
          rw [hk32] at ht7
          have hal7 := d_al wr (.cells #[.slice (some ⟨bo, oo + k * 32, none⟩) 32 32] 41)
          have ht8 := ht7.below hal7
          have ho8 := own_below HP hal7
          have hz8 : (wr.alloc (.cells #[.slice (some ⟨bo, oo + k * 32, none⟩) 32 32] 41)).heap.size = wr.heap.size + 1 := by simp
          have hone8 : ∀ u ∈ [Value.slice (some ⟨bo, oo + k * 32, none⟩) 32 32], u.oneCell' = true := by intro u hu; simp at hu; subst hu; rfl
          have hjs8 : js ≤ cs := hs.hnc
          clear hy hky hro hrk
          go_wp2_with (at_builtin; refine wpList_append_rd _ rfl (.tmp 62) (.tmp 67) _ rfl pQ 41 i1 _ 24 Tryd.underlying71 hi1 hy0 hy1 hy2 rfl (.slice Av (2 + q) cv) (2 + q) vs rfl ho8 (wr.heap.size + 1) (some ⟨wr.heap.size, 0, none⟩) 1 1 [.slice (some ⟨bo, oo + k * 32, none⟩) 32 32] rfl (Rd.mk_ _ _ _ rfl (by omega) rfl rfl) hone8 (by simp only [maxLen]; omega) (by omega) (by rw [hz8]; omega) ?_; intro v8 w8 hown8 hgr8 hat8)
          go_roundw
          case rel =>
            obtain ⟨A8, c8, rfl, _, _⟩ := own_form hown8
            refine ⟨q + 1, A8, c8, _, by omega, by go_num, rfl, hown8, ?_, (HB.trans (hal7.mono HB.size)).grown hgr8 (Nat.le_trans HB.size hal7.size) (fun z hz => by
              have := (ho8.lt z hz).1
              omega), Nat.le_trans hqz (Nat.le_trans hal7.size hgr8.size)⟩
            rw [HE.out]
            exact ht8.grown hgr8 hat8
          case measure => simp [intOf]; omega
        · obtain rfl : q = x.kids.length := by omega
          rw [List.take_length, show [lab, ky] ++ x.kids.map (keyI out) = pn by rw [Hpl.out]; rfl] at HT
          have hrv := Rd.of_own HP
          have htext := Text_any none 0 0 [] Av (2 + x.kids.length) cv vs pn wr (by omega) (by omega) (Rd.zero _ _ _) hrv HT.txs
          clear HP HT hrv
          go_wp2_with fail
          refine htext.mono ?_
          intro e w5 hp
          obtain ⟨A5, n5, c5, he, hown5, hnc5, Hn5, hb5⟩ := hp.yes Hgood.out
          subst he
          have HF := Lib.hid (Hpost.out w5 A5 n5 c5 (by simpa using Hn5.out) (own_lower hown5 HB.size) hnc5 (HB.trans (hb5.mono HB.size)))
          clear htext hown5 hb5 hp HB
          go_wp2_with fail
          exact HF.out)

end Go.Proofs.YtlidhdljgnijaaaDoor

/-
  CONTRACTS of the program's tag.Sums and tag.Sum.
-/
set_option linter.unusedVariables false
namespace Go.Proofs.YtlidhdljgnijaaaDoor
open Go.RowKit

set_option maxRecDepth 100000 in
set_option maxHeartbeats 8000000 in
theorem PSums13 (kind : Int) (Ai : Option Addr) (ni ci : Nat) (Al : Option Addr) (nl cl : Nat) (ids : List Int) (ll : List (List Int)) (Ap : Option Addr) (np cp : Nat) (ps : List UInt8) (w : World) (h : TgR w w.heap.size Ai ni ci Al nl cl ids ll Ap np cp ps) (hf : fewT ids ll = true) (hK : CTab w) :
    Calls Tryd.prog 11 #[.agg (tgV kind Ai ni ci Al nl cl Ap np cp)] w (SumsPost w (okG kind ids ll np ps) np (sumsT kind ids ll ps np)) := by
  obtain ⟨iK, hiK, hzK, hsK, hbK⟩ := info_parts infoKeyK
  have hM := (Ms.nil w).box 28 (tgV kind Ai ni ci Al nl cl Ap np cp)
  have hnf := fun wx (hb : Below w.heap.size w wx) => PNodesOf kind Ai ni ci Al nl cl ids ll Ap np cp ps wx ((h.below hb).more hb.size) hf
  have Hpost := Lib.hid (show (∀ w', Below w.heap.size w w' → okG kind ids ll np ps = false → SumsPost w (okG kind ids ll np ps) np (sumsT kind ids ll ps np) (.returned (.tuple #[.slice none 0 0, .int .i64 1])) w') ∧ (∀ w' A c l, Below w.heap.size w w' → okG kind ids ll np ps = true → w'.ownsRow w.heap.size 36 32 (.slice A np c) np (l.map bv) → l = sumsT kind ids ll ps np → SumsPost w (okG kind ids ll np ps) np (sumsT kind ids ll ps np) (.returned (.tuple #[.slice A np c, .int .i64 0])) w') from
    ⟨fun w' h1 h2 => ⟨h1, .inl ⟨h2, rfl⟩⟩, fun w' A c l h1 h2 h3 h4 => ⟨h1, .inr ⟨h2, A, c, rfl, by rw [← h4]; exact h3⟩⟩⟩)
  generalize SumsPost w (okG kind ids ll np ps) np (sumsT kind ids ll ps np) = PO at *
  go_enter Tryd.func11, Tryd.ntmps11
  go_upto_region 1 with fail
  try simp only [Act.put]
  obtain ⟨g, hg⟩ : ∃ g, g = w.heap.size := ⟨_, rfl⟩
  rw [← hg] at hM ⊢
  refine wp_gen (fun wx => Ms w wx [(g, 28, tgV kind Ai ni ci Al nl cl Ap np cp)]) hM ?_
  clear hM
  have Hg := Lib.hid hg
  clear hg
  rintro w0 hM0
  go_wp2_with ((with_reducible show wpList _ _ _ (⟨some 12, _, _, _, _, _⟩ :: _) _ _); refine wpList_loadC (by kernel_rfl) 28 (.tmp 1) rfl g rfl 28 (tgV kind Ai ni ci Al nl cl Ap np cp) _ (hM0.get 0 rfl) Tryd.underlying28 rfl tgInfo2 ?_)
  refine (hnf _ hM0.old).mono ?_
  rintro e w1 ⟨hb1, ⟨ho, rfl⟩ | ⟨hok, An, cn, he, hN⟩⟩
  · have HF := Lib.hid (Hpost.out.1 w1 (hM0.old.trans (hb1.mono hM0.old.size)) ho)
    clear hM0 hnf hb1
    go_wp2_with fail
    exact HF.out
  obtain ⟨nn, hnn⟩ : ∃ nn, nn = (nodesI kind ids ll).length := ⟨_, rfl⟩
  rw [← hnn] at he hN
  subst he
  have hM1 := hM0.call hb1
  have Hok := Lib.hid hok
  have hmay : mayB kind ids ll = true := by rw [okG, Bool.and_eq_true] at hok; exact hok.1
  have hnp0 : np = nn := by
    rw [okG, Bool.and_eq_true, Bool.and_eq_true, Bool.and_eq_true, decide_eq_true_eq, decide_eq_true_eq] at hok
    rw [hnn]
    exact hok.2.2.1.symm
  have hnp : nn ≤ 2000 := by have h2 := nodesI_le kind ids ll; omega
  have hchk : chkT ids ll = true := by rw [mayB, Bool.and_eq_true] at hmay; exact hmay.2
  have Hids := Lib.hid (okI_mem (chkT_lv hchk).2.1)
  obtain ⟨en, NFn⟩ := nodesG_nf hmay
  have hk3 : ∀ x ∈ nodesG kind ids ll, x.kids.length ≤ 3 := fun x hx => by
    have h1 := nodesI_kids kind ids ll x.i (by rw [en]; exact List.mem_map_of_mem hx)
    simpa [RN.i, castL] using h1
  have Hsum := Lib.hid (show sumsT kind ids ll ps np = sumsJ (nodesG kind ids ll) ids ps np from rfl)
  rw [en] at hN hnn
  rw [List.length_map] at hnn
  generalize nodesG kind ids ll = L at *
  subst hnp0
  have hcn := hN.cap
  unfold maxLen at hcn
  have Hnn := Lib.hid hnn
  have HNF := Lib.hid NFn
  have Hk3 := Lib.hid hk3
  have hR := hM1.get 0 rfl
  have hold := hM1.old
  have hT := h.below hold
  have hK1 := hK.below hold
  have hw1 := hold.size
  clear hM0 hM1 hnf hb1 hok hmay hchk en hnn NFn hk3 h hK
  go_upto_region 5 with (at_make; refine wpList_make_own _ rfl _ _ 26 rfl w1.heap.size 36 iK _ 32 Tryd.underlying26 hiK hzK hsK _ _ _ np rfl rfl (by simp) (by rw [hbK]; omega) (by simp only [maxLen]; omega) (Nat.le_refl _) ?_; intro w2 hown2 hgr2)
  try simp only [Act.put]
  have hb2 : Below w1.heap.size w1 w2 := (Below.refl _ _).grown hgr2 (Nat.le_refl _) (by simp)
  clear hgr2
  go_wp2_with fail
  go_loopw [6, 24] (fun v6 v24 wr => ∃ (j : Nat) (A : Option Addr) (c : Nat), j ≤ np ∧ v24 = .int .i64 (j : Int) ∧ v6 = .slice A j c ∧ wr.ownsRow w1.heap.size 36 32 (.slice A j c) j ((sumsJ L ids ps j).map bv) ∧ Below w1.heap.size w1 wr) (fun _ v24 _ => np - (intOf v24).toNat)
  case atStart => exact ⟨0, _, _, by omega, rfl, rfl, hown2, hb2⟩
  case round =>
    clear hown2 hb2
    obtain ⟨j, A, c, hj, rfl, rfl, hown, hb⟩ := hrel
    by_cases hjn : j < np
    · have hjl : j < L.length := by have := Hnn.out; omega
      have hx := List.getElem?_eq_getElem hjl
      obtain ⟨bn, on, Au, cu, rfl, hbn, hrn, hcu, hmu, hku⟩ := hN.range (k := j) (x := (L[j]).i) (by rw [List.getElem?_map, hx]; rfl)
      have Hkk := Lib.hid (show ∀ k ∈ L[j].kids, k < j from fun k hk => (HNF.out.kidUp hx hk).choose_spec.2.2)
      have Hx3 := Lib.hid (Hk3.out _ (List.getElem_mem hjl))
      have Hlf := Lib.hid (show L[j].lev = 0 → L[j].at_ < ids.length from fun e => (HNF.out.leafAt hx e).2.2)
      have Hsl := Lib.hid (sumsJ_len L ids ps j (by omega))
      have Hsn := Lib.hid (sumsJ_succ hx ids ps)
      generalize L[j] = x at *
      have hrn := rangeW hrn hbn hb
      have hkul : x.i.kids.length = x.kids.length := castL_len x.kids
      rw [hkul] at hrn hcu hku
      have zj : (j : Int) < (np : Int) := by omega
      have hsn : (Tryd.prog.info? 68).map (·.size) = some (riC x.i (.slice Au x.kids.length cu)).length := by kernel_rfl
      have hput := ((Ms.nil wr).put 68 #[.int .i64 0, .int .i64 0, .bool false, .int .i64 0, .int .i64 0, .slice none 0 0, .int .i64 0] (riC x.i (.slice Au x.kids.length cu)).toArray)
      have hRr := hR.call hb
      have hTr := hT.below (hb.mono hw1)
      have hKr := hK1.below hb
      go_upto_region 8 with (first
        | ((with_reducible show wpList _ _ _ (⟨some 28, _, _, _, _, _⟩ :: _) _ _); refine wpList_load_midG (by kernel_rfl) 68 (.tmp 27) rfl bn (on + j * 7) rfl (riC x.i (.slice Au x.kids.length cu)) _ hrn Tryd.underlying68 rfl hsn ?_)
        | ((with_reducible show wpList _ _ _ (⟨none, Op.store 68 _ _, _, _, _, _⟩ :: _) _ _); refine wpList_store_row rfl 68 (.tmp 8) (.tmp 28) rfl wr.heap.size (riC x.i (.slice Au x.kids.length cu)).toArray rfl rfl 68 _ (RowC.new _ _ _) (by simpa using hsn) rfl (by simp [riC, Value.oneCell']) ?_))
      try simp only [Act.put]
      obtain ⟨gx, hgx⟩ : ∃ q, q = wr.heap.size := ⟨_, rfl⟩
      have Hgx := Lib.hid hgx
      rw [← hgx] at hput ⊢
      refine wp_gen (fun wx => Ms wr wx [(gx, 68, (riC x.i (.slice Au x.kids.length cu)).toArray)]) hput ?_
      clear hput hrn hgx
      rintro wa hMa
      have hba := hb.trans (hMa.old.mono hb.size)
      have hTa := hTr.below (hMa.old.mono (Nat.le_trans hw1 hb.size))
      have hRa := hRr.call hMa.old
      have howna := own_below hown hMa.old
      have hkua := (hku.below hba).more hba.size
      have hwa : w.heap.size ≤ wa.heap.size := Nat.le_trans hw1 hba.size
      have hsm := PSummed13 kind Ai ni ci Al nl cl ids ll Ap np cp ps x Au cu j A j c (sumsJ L ids ps j) wa (hTa.more hwa) hjn hnp (by omega) Hx3.out Hlf.out Hids.out Hkk.out hkua (KyR.of_own howna)
      have hrowx := hMa.get 0 rfl
      obtain ⟨hps1, hps2⟩ := parts_short (sumsJ L ids ps j) ids ps j x Hx3.out
      obtain ⟨htl, _⟩ := txs_le32 (partsN (sumsJ L ids ps j) ids ps j x) hps1
      have Hsn2 := Lib.hid (show sumsJ L ids ps (j + 1) = sumsJ L ids ps j ++ sumU (txs (partsN (sumsJ L ids ps j) ids ps j x)) from Hsn.out)
      generalize txs (partsN (sumsJ L ids ps j) ids ps j x) = tx at *
      have Htl := Lib.hid (show tx.length ≤ 170 by omega)
      obtain ⟨s, hs⟩ : ∃ q, q = sumU tx := ⟨_, rfl⟩
      have hsl : s.length = 32 := by rw [hs]; exact sumU_len _
      have Hs := Lib.hid hs
      have Hfd := Lib.hid (fold_keyK hsl)
      clear hs hps1 hps2 htl hTr hRr hMa hkul hcu hmu hku hkua
      have hKa := hK1.below hba
      have hszx : (Tryd.prog.info? 68).map (·.size) = some (riC x.i (.slice Au x.kids.length cu)).toArray.size := by kernel_rfl
      go_wp2_with (first
        | ((with_reducible show wpList _ _ _ (⟨some 30, _, _, _, _, _⟩ :: _) _ _); refine wpList_loadC (by kernel_rfl) 28 (.tmp 1) rfl g rfl 28 (tgV kind Ai ni ci Al nl cl Ap np cp) _ hRa Tryd.underlying28 rfl tgInfo2 ?_)
        | ((with_reducible show wpList _ _ _ (⟨some 31, _, _, _, _, _⟩ :: _) _ _); refine wpList_loadC (by kernel_rfl) 68 (.tmp 8) rfl gx rfl 68 (riC x.i (.slice Au x.kids.length cu)).toArray _ hrowx Tryd.underlying68 rfl hszx ?_))
      refine hsm.mono ?_
      rintro e wb ⟨At, ct, rfl, hot, hntc, hbt⟩
      have hbb := hba.trans (hbt.mono hba.size)
      have hownb := own_below howna hbt
      have hKb := hKa.below hbt
      have hal := d_al wb (.cells #[.slice At tx.length ct] 41)
      have hbc := c_call hbb hal
      have hownc := own_below hownb hal
      have hKc := hKb.below hal
      have hzc : (wb.alloc (.cells #[.slice At tx.length ct] 41)).heap.size = wb.heap.size + 1 := by simp
      have hrd := Rd.mk_ wb 41 #[.slice At tx.length ct] (b := wb.heap.size) (B := wb.heap.size + 1) (n := 1) rfl (by omega) rfl rfl
      have htE := Txs.one (w := wb.alloc (.cells #[.slice At tx.length ct] 41)) (B := wb.heap.size) ((Rd.of_own hot).below hal) hntc
      have hsum := pSum_any (some ⟨wb.heap.size, 0, none⟩) 1 1 [.slice At tx.length ct] [tx] _ (by omega) (by have := Htl.out; simp; omega) (by rw [hzc]; exact hrd) (by rw [hzc]; exact htE.more (by omega)) hKc
      rw [show sumU [tx].flatten = s by rw [Hs.out]; simp, show (s.map bv).toArray = keyC s from rfl] at hsum
      have hks : (keyC s).size = 32 := by rw [keyC_size, hsl]
      clear hsm hot hrd htE hal hownb hKb hKc hbb hRa hrowx howna hTa hKa hKr hba hbt hb hown
      go_wp2_with fail
      refine hsum.mono ?_
      rintro e wF ⟨rfl, hbF⟩
      have hbF1 := hbc.trans (hbF.mono hbc.size)
      have halF := d_al wF (.cells (keyC s) 36)
      have hbF2 := c_call hbF1 halF
      have hownF := own_below (own_below hownc hbF) halF
      have hrF : Rd (wF.alloc (.cells (keyC s) 36)) (wF.heap.size + 1) (some ⟨wF.heap.size, 0, none⟩) (1 * 32) (s.map bv) := Rd.mk_ _ _ _ rfl (by omega) (by rw [hks]) (by simp [keyC])
      have hfd := Hfd.out
      have hszF : w1.heap.size ≤ (wF.alloc (.cells (keyC s) 36)).heap.size := hbF2.size
      clear hsum hownc hbc hbF halF hbF1
      go_wp2_with (at_builtin; refine wpList_append_ky _ (by kernel_rfl) (.tmp 40) (.tmp 44) _ rfl w1.heap.size 36 iK _ 32 32 Tryd.underlying26 hiK hzK hsK hbK rfl (by omega) (.slice A j c) j _ rfl hownF (wF.heap.size + 1) (some ⟨wF.heap.size, 0, none⟩) 1 1 (s.map bv) rfl hrF (one_bv _) (by simp only [maxLen]; omega) (by omega) hszF ?_; intro v5 w5 hown5 hgr5 hat5; obtain ⟨A5, c5, rfl, _, _⟩ := own_slK hown5)
      go_roundw
      case rel =>
        refine ⟨j + 1, A5, c5, by omega, by go_num, rfl, ?_, hbF2.grown hgr5 hszF (fun q hq => (hownF.lt q hq).1)⟩
        rw [Hsn2.out, ← Hs.out, List.map_append]
        exact hown5
      case measure => simp [intOf]; omega
    · obtain rfl : j = np := by omega
      have HF := Lib.hid (Hpost.out.2 wr A c _ (hold.trans (hb.mono hw1)) Hok.out (own_lowK hown hw1) Hsum.out.symm)
      clear hown hb
      go_wp2_with fail
      exact HF.out

end Go.Proofs.YtlidhdljgnijaaaDoor

/-
  CONTRACTS of the program's red.leaf: its closure, and slices.IndexFunc over nodes with it.
-/
set_option linter.unusedVariables false
namespace Go.Proofs.YtlidhdljgnijaaaDoor
open Go.RowKit

def leafB (p : Int) (x : RI) : Bool := x.lev == 0 && x.at_ == p
end Go.Proofs.YtlidhdljgnijaaaDoor

/-
  CONTRACTS of the program's tag.Sum and tag.Leaf. Printed by gen_tagpf.py.
-/
set_option linter.unusedVariables false
namespace Go.Proofs.YtlidhdljgnijaaaDoor
open Go.RowKit

set_option maxRecDepth 100000 in
set_option maxHeartbeats 4000000 in
theorem PSum13 (kind : Int) (Ai : Option Addr) (ni ci : Nat) (Al : Option Addr) (nl cl : Nat) (ids : List Int) (ll : List (List Int)) (Ap : Option Addr) (np cp : Nat) (ps : List UInt8) (w : World) (h : TgR w w.heap.size Ai ni ci Al nl cl ids ll Ap np cp ps) (hf : fewT ids ll = true) (hK : CTab w) :
    Calls Tryd.prog 13 #[.agg (tgV kind Ai ni ci Al nl cl Ap np cp)] w fun e w' => e = .returned (.tuple #[.agg (keyC (sumG kind ids ll np ps)), .int .i64 (chkG kind ids ll np ps)]) ∧ Below w.heap.size w w' := by
  have hM := ((Ms.nil w).box 28 (tgV kind Ai ni ci Al nl cl Ap np cp)).box 36 (keyC zeroK)
  simp only [World.size_alloc] at hM
  rw [keyC_zero] at hM
  have hsm := fun wx (hb : Below w.heap.size w wx) => PSums13 kind Ai ni ci Al nl cl ids ll Ap np cp ps wx ((h.below hb).more hb.size) hf (hK.below hb)
  have Hlen := Lib.hid (fun hok => sumsT_len (kind := kind) (ids := ids) (ll := ll) (np := np) (ps := ps) hok)
  have hsz := sizeKey zeroK_len
  have hoz := one_keyF zeroK
  rw [keyC_zero] at hsz hoz
  clear h hf hK
  go_enter Tryd.func13, Tryd.ntmps13
  go_upto_region 1 with fail
  try simp only [Act.put]
  obtain ⟨g, hg⟩ : ∃ g, g = w.heap.size := ⟨_, rfl⟩
  rw [← hg] at hM ⊢
  refine wp_gen (fun wx => Ms w wx [(g + 1, 36, #[.int .u8 0, .int .u8 0, .int .u8 0, .int .u8 0, .int .u8 0, .int .u8 0, .int .u8 0, .int .u8 0, .int .u8 0, .int .u8 0, .int .u8 0, .int .u8 0, .int .u8 0, .int .u8 0, .int .u8 0, .int .u8 0, .int .u8 0, .int .u8 0, .int .u8 0, .int .u8 0, .int .u8 0, .int .u8 0, .int .u8 0, .int .u8 0, .int .u8 0, .int .u8 0, .int .u8 0, .int .u8 0, .int .u8 0, .int .u8 0, .int .u8 0, .int .u8 0]), (g, 28, tgV kind Ai ni ci Al nl cl Ap np cp)]) hM ?_
  have Hg := Lib.hid hg
  clear hM hg
  rintro w0 hM0
  go_wp2_with ((with_reducible show wpList _ _ _ (⟨some 7, _, _, _, _, _⟩ :: _) _ _); refine wpList_loadC (by kernel_rfl) 28 (.tmp 1) rfl g rfl 28 (tgV kind Ai ni ci Al nl cl Ap np cp) _ (hM0.get 1 rfl) Tryd.underlying28 rfl tgInfo2 ?_)
  refine (hsm _ hM0.old).mono ?_
  rintro e w1 ⟨hb1, hor⟩
  have hM1 := hM0.call hb1
  clear hM0 hsm
  rcases hor with ⟨hok, he⟩ | ⟨hok, A, c, he, hown⟩
  · subst he
    have HF := Lib.hid (show sumG kind ids ll np ps = zeroK ∧ chkG kind ids ll np ps = 1 from ⟨by rw [sumG, hok]; rfl, by rw [chkG, hok]; rfl⟩)
    have hrow := hM1.get 0 rfl
    have hold := below_setRow hM1.old (show w.heap.size ≤ g + 1 by have := Hg.out; omega) #[.int .u8 0, .int .u8 0, .int .u8 0, .int .u8 0, .int .u8 0, .int .u8 0, .int .u8 0, .int .u8 0, .int .u8 0, .int .u8 0, .int .u8 0, .int .u8 0, .int .u8 0, .int .u8 0, .int .u8 0, .int .u8 0, .int .u8 0, .int .u8 0, .int .u8 0, .int .u8 0, .int .u8 0, .int .u8 0, .int .u8 0, .int .u8 0, .int .u8 0, .int .u8 0, .int .u8 0, .int .u8 0, .int .u8 0, .int .u8 0, .int .u8 0, .int .u8 0]
    clear hb1 hok
    go_wp2_with ((with_reducible show wpList _ _ _ (⟨none, Op.store 36 _ _, _, _, _, _⟩ :: _) _ _); refine wpList_store_row rfl 36 (.tmp 2) (.tmp 13) rfl (g + 1) #[.int .u8 0, .int .u8 0, .int .u8 0, .int .u8 0, .int .u8 0, .int .u8 0, .int .u8 0, .int .u8 0, .int .u8 0, .int .u8 0, .int .u8 0, .int .u8 0, .int .u8 0, .int .u8 0, .int .u8 0, .int .u8 0, .int .u8 0, .int .u8 0, .int .u8 0, .int .u8 0, .int .u8 0, .int .u8 0, .int .u8 0, .int .u8 0, .int .u8 0, .int .u8 0, .int .u8 0, .int .u8 0, .int .u8 0, .int .u8 0, .int .u8 0, .int .u8 0] rfl rfl 36 _ hrow hsz rfl hoz ?_)
    refine bodyPost_ret (results_cell_two rfl _ _ (g + 1) 36 #[.int .u8 0, .int .u8 0, .int .u8 0, .int .u8 0, .int .u8 0, .int .u8 0, .int .u8 0, .int .u8 0, .int .u8 0, .int .u8 0, .int .u8 0, .int .u8 0, .int .u8 0, .int .u8 0, .int .u8 0, .int .u8 0, .int .u8 0, .int .u8 0, .int .u8 0, .int .u8 0, .int .u8 0, .int .u8 0, .int .u8 0, .int .u8 0, .int .u8 0, .int .u8 0, .int .u8 0, .int .u8 0, .int .u8 0, .int .u8 0, .int .u8 0, .int .u8 0] _ rfl (hrow.row _) Tryd.underlying36 rfl hsz) rfl ⟨?_, hold⟩
    rw [HF.out.1, HF.out.2, keyC_zero]
    rfl
  · subst he
    have HF := Lib.hid (show sumG kind ids ll np ps = keyI (sumsT kind ids ll ps np) (np - 1) ∧ chkG kind ids ll np ps = 0 from ⟨by rw [sumG, hok]; rfl, by rw [chkG, hok]; rfl⟩)
    have hnp := okG_np hok
    obtain ⟨lk, hlk⟩ : ∃ l, l + 1 = np := ⟨np - 1, by omega⟩
    have hkr := KyR.of_own hown
    have hcm := Nat.le_trans hkr.hnc hkr.hcm
    unfold maxLen at hcm
    obtain ⟨b, o, rfl, _, hr⟩ := hkr.range (show lk < np by omega)
    rw [show np - 1 = lk by omega] at HF
    have hkl := keyI_len (Hlen.out hok) (show lk < np by omega)
    generalize keyI (sumsT kind ids ll ps np) lk = ky at *
    have hsk := sizeKeyL hkl
    have hsa := sizeKey hkl
    have hone := one_keyF ky
    have zk : IntKind.i64.wrap ((np : Int) - 1) = (lk : Int) := by rw [IntKind.wrap_i64]; omega
    have zl : (lk : Int) < (np : Int) := by omega
    have hrow := hM1.get 0 rfl
    have hold := below_setRow hM1.old (show w.heap.size ≤ g + 1 by have := Hg.out; omega) (keyC ky)
    clear hb1 hok hown hkr hlk
    go_wp2_with (first
      | ((with_reducible show wpList _ _ _ (⟨some 20, _, _, _, _, _⟩ :: _) _ _); refine wpList_load_midG (by kernel_rfl) 36 (.tmp 19) rfl b (o + lk * 32) rfl (keyC ky).toList _ hr Tryd.underlying36 rfl hsk ?_)
      | ((with_reducible show wpList _ _ _ (⟨none, Op.store 36 _ _, _, _, _, _⟩ :: _) _ _); refine wpList_store_row rfl 36 (.tmp 2) (.tmp 20) rfl (g + 1) (keyC ky) rfl rfl 36 _ hrow hsa (by rw [keyC_size, hkl]; rfl) hone ?_))
    refine bodyPost_ret (results_cell_two rfl _ _ (g + 1) 36 (keyC ky) _ rfl (hrow.row _) Tryd.underlying36 rfl hsa) rfl ⟨?_, hold⟩
    rw [HF.out.1, HF.out.2]
    rfl

set_option maxRecDepth 100000 in
theorem PLeafC_any (x : RI) (u : Value) (b : Nat) (p : Int) (w : World) (hb : w.cell? ⟨b, 0, none⟩ = some (.int .i64 p)) (hu : u.oneCell' = true) :
    Calls Tryd.prog 40 #[.agg (riC x u).toArray, .pointer (some ⟨b, 0, none⟩)] w fun e w' => e = .returned (.bool (x.lev == 0 && x.at_ == p)) ∧ Below w.heap.size w w' := by
  have hM := (Ms.nil w).box 68 (riC x u).toArray
  have hold := hM.old
  have c0 := (hM.get 0 rfl).cell (i := 0) (v := .int .i64 x.lev) rfl
  have c1 := (hM.get 0 rfl).cell (i := 1) (v := .int .i64 x.at_) rfl
  have hb1 : (w.alloc (.cells (riC x u).toArray 68)).cell? ⟨b, 0, none⟩ = some (.int .i64 p) := by
    rw [World.cell?_of_block (hold.block b (World.block_lt_of_cell? w _ hb))]
    exact hb
  have Hpost := Lib.hid (show ∀ r w', r = (x.lev == 0 && x.at_ == p) → Below w.heap.size w w' → (fun e w' => e = Ending.returned (Value.bool (x.lev == 0 && x.at_ == p)) ∧ Below w.heap.size w w') (.returned (.bool r)) w' from fun r w' h1 h2 => ⟨by rw [h1], h2⟩)
  generalize (fun e w' => e = Ending.returned (Value.bool (x.lev == 0 && x.at_ == p)) ∧ Below w.heap.size w w') = PO at *
  by_cases h1 : x.lev = 0
  · by_cases h2 : x.at_ = p
    · have hc := Lib.hid (show true = (x.lev == 0 && x.at_ == p) by simp [h1, h2])
      have hbn : (x.at_ == p) = true := by simpa using h2
      clear hM
      go_enter Tryd.func40, Tryd.ntmps40
      go_wp2_with fail
      (first | exact Hpost.out _ _ hc.out hold | exact bodyPost_ret (results_tmp rfl _ _ _) rfl (Hpost.out _ _ hc.out hold))
    · have hc := Lib.hid (show false = (x.lev == 0 && x.at_ == p) by simp [h2])
      have hbn : (x.at_ == p) = false := by simpa using h2
      clear hM
      go_enter Tryd.func40, Tryd.ntmps40
      go_wp2_with fail
      (first | exact Hpost.out _ _ hc.out hold | exact bodyPost_ret (results_tmp rfl _ _ _) rfl (Hpost.out _ _ hc.out hold))
  · have hc := Lib.hid (show false = (x.lev == 0 && x.at_ == p) by simp [h1])
    clear hM
    go_enter Tryd.func40, Tryd.ntmps40
    go_wp2_with fail
    (first | exact Hpost.out _ _ hc.out hold | exact bodyPost_ret (results_tmp rfl _ _ _) rfl (Hpost.out _ _ hc.out hold))

set_option maxRecDepth 100000 in
set_option maxHeartbeats 4000000 in
theorem PIndexC_any (A : Option Addr) (n c : Nat) (ns : List RI) (p : Int) (b B k : Nat) (x : RI) (w : World) (hN : NdR w B A n c ns) (hB : B ≤ w.heap.size) (hb : w.cell? ⟨b, 0, none⟩ = some (.int .i64 p)) (hk : ns[k]? = some x) (hx : leafB p x = true) (hmin : ∀ (i : Nat) (y : RI), i < k → ns[i]? = some y → leafB p y = false) (hn : n ≤ 100000) :
    Calls Tryd.prog 41 #[.slice A n c, .func (.func 40) #[] #[.pointer (some ⟨b, 0, none⟩)]] w fun e w' => e = .returned (.int .i64 (k : Nat)) ∧ Below w.heap.size w w' := by
  have Hmin := Lib.hid hmin
  have Hn := Lib.hid hN.len
  have hkn : k < n := by rw [← hN.len]; exact (List.getElem?_eq_some_iff.1 hk).1
  have hblt := World.block_lt_of_cell? w _ hb
  have Hpost := Lib.hid (show ∀ w', Below w.heap.size w w' → (fun e w' => e = Ending.returned (Value.int .i64 (k : Nat)) ∧ Below w.heap.size w w') (.returned (.int .i64 (k : Nat))) w' from fun w' h => ⟨rfl, h⟩)
  generalize (fun e w' => e = Ending.returned (Value.int .i64 (k : Nat)) ∧ Below w.heap.size w w') = PO at *
  clear hmin
  go_enter Tryd.func41, Tryd.ntmps41
  go_wp2_with fail
  go_loopw [8] (fun v8 wr => ∃ j : Nat, j ≤ k ∧ v8 = .int .i64 (j : Int) ∧ Below w.heap.size w wr) (fun v8 _ => n - (intOf v8).toNat)
  case atStart => exact ⟨0, by omega, rfl, Below.refl _ _⟩
  case round =>
    obtain ⟨j, hj, rfl, hold⟩ := hrel
    have hjn : j < n := by omega
    have hjx : j < ns.length := by rw [Hn.out]; exact hjn
    have hy : ns[j]? = some ns[j] := List.getElem?_eq_getElem hjx
    obtain ⟨g, o, Au, cu, rfl, hg, hrg, _, _, _⟩ := (hN.below (hold.mono hB)).range hy
    have hlf := PLeafC_any ns[j] (.slice Au ns[j].kids.length cu) b p wr (by rw [World.cell?_of_block (hold.block b hblt)]; exact hb) rfl
    have Hj := Lib.hid (show j < k → leafB p ns[j] = false from fun h => Hmin.out j _ h hy)
    have Hk := Lib.hid (show j = k → leafB p ns[j] = true from fun h => by
      subst h
      rw [hy] at hk
      rw [Option.some.inj hk]
      exact hx)
    generalize ns[j] = y at *
    rw [← leafB] at hlf
    have zj : (j : Int) < (n : Int) := by omega
    go_wp2_with ((with_reducible show wpList _ _ _ (⟨some 15, _, _, _, _, _⟩ :: _) _ _); refine wpList_load_midG (by kernel_rfl) 68 (.tmp 14) rfl g (o + j * 7) rfl (riC y (.slice Au y.kids.length cu)) _ hrg Tryd.underlying68 rfl rnInfo2 ?_)
    refine hlf.mono ?_
    rintro e w2 ⟨rfl, hb2⟩
    have hold2 := hold.trans (hb2.mono hold.size)
    by_cases hjk : j = k
    · rw [Hk.out hjk]
      subst hjk
      clear hlf hrg
      go_wp2_with fail
      (first | exact Hpost.out _ hold2 | exact bodyPost_ret (results_tmp rfl _ _ _) rfl (Hpost.out _ hold2))
    · rw [Hj.out (by omega)]
      clear hlf hrg
      go_wp2_with fail
      go_roundw
      case rel => exact ⟨j + 1, by omega, by go_num, hold2⟩
      case measure => simp [intOf]; omega

set_option maxRecDepth 100000 in
set_option maxHeartbeats 4000000 in
theorem PLeaf13 (kind : Int) (Ai : Option Addr) (ni ci : Nat) (Al : Option Addr) (nl cl : Nat) (ids : List Int) (ll : List (List Int)) (Ap : Option Addr) (np cp : Nat) (ps : List UInt8) (id : Int) (w : World) (h : TgR w w.heap.size Ai ni ci Al nl cl ids ll Ap np cp ps) (hf : fewT ids ll = true) :
    Calls Tryd.prog 15 #[.agg (tgV kind Ai ni ci Al nl cl Ap np cp), .int .i64 id] w fun e w' => e = .returned (.tuple #[.int .i64 (leafG kind ids ll np ps id), .int .i64 (leafE kind ids ll np ps id)]) ∧ Below w.heap.size w w' := by
  have hM := (Ms.nil w).box 28 (tgV kind Ai ni ci Al nl cl Ap np cp)
  have hnf := fun wx (hb : Below w.heap.size w wx) => PNodesOf kind Ai ni ci Al nl cl ids ll Ap np cp ps wx ((h.below hb).more hb.size) hf
  have hfd := fun wx (hb : Below w.heap.size w wx) => PFind_any Ai ni ci Al nl cl ids id wx h.sh.hni h.sh.hci h.sh.hmi ((h.sh.hids.below hb).more hb.size)
  have hmf : ∀ (fn : Fn) (first cap : Array Value) (w : World), (Instr.makeFunc fn first cap).run Tryd.prog w = .ok (.func fn first cap) w := fun _ _ _ _ => rfl
  clear h
  go_enter Tryd.func15, Tryd.ntmps15
  go_upto_region 1 with fail
  try simp only [Act.put]
  obtain ⟨g, hg⟩ : ∃ g, g = w.heap.size := ⟨_, rfl⟩
  rw [← hg] at hM ⊢
  refine wp_gen (fun wx => Ms w wx [(g, 28, tgV kind Ai ni ci Al nl cl Ap np cp)]) hM ?_
  clear hM hg
  rintro w0 hM0
  go_wp2_with ((with_reducible show wpList _ _ _ (⟨some 12, _, _, _, _, _⟩ :: _) _ _); refine wpList_loadC (by kernel_rfl) 28 (.tmp 2) rfl g rfl 28 (tgV kind Ai ni ci Al nl cl Ap np cp) _ (hM0.get 0 rfl) Tryd.underlying28 rfl tgInfo2 ?_)
  refine (hnf _ hM0.old).mono ?_
  rintro e w1 ⟨hb1, ⟨hok, rfl⟩ | ⟨hok, An, cn, he, hN⟩⟩
  · have HF := Lib.hid (show leafG kind ids ll np ps id = 0 ∧ leafE kind ids ll np ps id = 1 from ⟨by rw [leafG, if_neg (fun h => by rw [hok] at h; cases h.1)], by rw [leafE, if_neg (by rw [hok]; simp)]⟩)
    have hold := hM0.old.trans (hb1.mono hM0.old.size)
    clear hM0 hnf hfd hb1
    go_wp2_with fail
    refine bodyPost_ret (results_tmp2 rfl _ _ _) rfl ⟨?_, hold⟩
    rw [HF.out.1, HF.out.2]
    rfl
  obtain ⟨nn, hnn⟩ : ∃ nn, nn = (nodesI kind ids ll).length := ⟨_, rfl⟩
  rw [← hnn] at he hN
  subst he
  have hM1 := hM0.call hb1
  have hold := hM1.old
  have HF := Lib.hid (show (id ∈ ids → leafG kind ids ll np ps id = (((pathI kind ids ll id).getD 0 0 : Nat) : Int) ∧ leafE kind ids ll np ps id = 0) ∧ (id ∉ ids → leafG kind ids ll np ps id = 0 ∧ leafE kind ids ll np ps id = 6) from
    ⟨fun hi => ⟨by rw [leafG, if_pos ⟨hok, hi⟩], by rw [leafE, if_pos hok, if_pos hi]⟩, fun hi => ⟨by rw [leafG, if_neg (fun h => hi h.2)], by rw [leafE, if_pos hok, if_neg hi]⟩⟩)
  have Hmb := Lib.hid (okG_may hok)
  have hn2 : nn ≤ 2000 := by have := nodesI_le kind ids ll; omega
  have hr1 := tg_sh (hM1.get 0 rfl)
  obtain ⟨p, hp⟩ : ∃ p, p = belT ids id := ⟨_, rfl⟩
  obtain ⟨ti, hti⟩ : ∃ ti, ti = isT ids id := ⟨_, rfl⟩
  rw [← hp, ← hti] at hfd
  have Hp := Lib.hid hp
  have Hti := Lib.hid hti
  have Hnn := Lib.hid hnn
  clear hp hti hnn hM0 hb1 hnf hok
  go_upto_region 4 with fail
  go_wp2_with ((with_reducible show wpList _ _ _ (⟨some 21, _, _, _, _, _⟩ :: _) _ _); refine wpList_load_midG (by kernel_rfl) 25 (.tmp 20) rfl g 1 rfl (shV Ai ni ci Al nl cl).toList _ hr1 Tryd.underlying25 rfl shapeInfo2 ?_)
  refine (hfd _ hold).mono ?_
  rintro e w2 ⟨rfl, hb2⟩
  have hold2 := hold.trans (hb2.mono hold.size)
  have hN2 := (hN.below hb2).more hb2.size
  clear hM1 hr1 hold hb2 hN hfd
  have hMb := (Ms.nil w2).box 3 #[.int .i64 (p : Int)]
  cases ti with
  | false =>
    have hni : id ∉ ids := fun hi => by have := isT_mem.2 hi; rw [← Hti.out] at this; cases this
    have HF2 := Lib.hid (HF.out.2 hni)
    have hold3 : Below w.heap.size w _ := hold2.trans (hMb.old.mono hold2.size)
    clear hN2 hMb
    go_wp2_with fail
    refine bodyPost_ret (results_tmp2 rfl _ _ _) rfl ⟨?_, hold3⟩
    rw [HF2.out.1, HF2.out.2]
    rfl
  | true =>
    have hi : id ∈ ids := isT_mem.1 Hti.out.symm
    have HF2 := Lib.hid (HF.out.1 hi)
    have h0 : 0 < ids.length := List.length_pos_of_mem hi
    have hT := top_facts Hmb.out h0
    obtain ⟨hpa, hpl⟩ := path_top hT Hmb.out Hti.out.symm
    rw [← Hp.out] at hpa hpl
    obtain ⟨a, t, x, e1, e2, e3, e4, e5, e6⟩ := (way_top hT hpl).first
    have Hk := Lib.hid (show ((pathI kind ids ll id).getD 0 0) = a by rw [hpa, e1]; rfl)
    have hnod := hT.nodes
    rw [hnod] at hN2
    have hN3 := (hN2.below hMb.old).more hMb.old.size
    have hix := PIndexC_any An nn cn _ (p : Int) w2.heap.size _ a x.i _ hN3 (Nat.le_refl _) ((hMb.get 0 rfl).cell (i := 0) (v := .int .i64 (p : Int)) rfl) (by rw [List.getElem?_map, e2]; rfl) (by simp [leafB, RN.i, e3, e4]) (fun i y hi hy => by
      rw [List.getElem?_map] at hy
      obtain ⟨z, hz, rfl⟩ := Option.map_eq_some_iff.1 hy
      have := e6 i z hi hz
      simp only [leafB, RN.i, Bool.and_eq_false_iff, beq_eq_false_iff_ne]
      omega) (by omega)
    have hold3 : Below w.heap.size w _ := hold2.trans (hMb.old.mono hold2.size)
    clear hN2 hN3 hMb hT hpa hpl e1 e2 e3 e4 e5 e6 hnod h0 hi
    go_wp2_with fail
    refine hix.mono ?_
    rintro e w3 ⟨rfl, hb3⟩
    have hold4 := hold3.trans (hb3.mono hold3.size)
    clear hix hmf hold3 hb3
    go_wp2_with fail
    refine bodyPost_ret (results_tmp2 rfl _ _ _) rfl ⟨?_, hold4⟩
    rw [HF2.out.1, HF2.out.2, Hk.out]
    rfl

end Go.Proofs.YtlidhdljgnijaaaDoor

/-
  CONTRACTS of the program's tag.putList, tag.putShape and tag.Write.
-/
set_option linter.unusedVariables false
namespace Go.Proofs.YtlidhdljgnijaaaDoor
open Go.RowKit

/-- bytes of the call's own are told -/
def BytesPost (w : World) (l : List UInt8) (e : Ending) (w' : World) : Prop :=
  Below w.heap.size w w' ∧ ∃ A n c, e = .returned (.tuple #[.slice A n c, .int .i64 0]) ∧ n ≤ c ∧ n = l.length ∧ w'.ownsRow w.heap.size 5 1 (.slice A n c) n (l.map bv)
theorem NumPost.bytes {w w0 w' : World} {l : List UInt8} {d : Int} {ns : List Nat} {e : Ending} (h : NumPost w0 l d ns e w') (hg : Good d ns) (hb : Below w.heap.size w w0) : BytesPost w (l ++ nums d.toNat ns) e w' := by
  obtain ⟨A, n, c, h1, h2, h3, h4, h5⟩ := h.yes hg
  exact ⟨hb.trans (h5.mono hb.size), A, n, c, h1, h3, h4.out, own_lower h2 hb.size⟩

set_option maxRecDepth 100000 in
set_option maxHeartbeats 4000000 in
theorem PPutList13 (A : Option Addr) (k c : Nat) (l : List UInt8) (mw wd : Nat) (Ai : Option Addr) (ni ci : Nat) (xs : List Nat) (w : World) (hkc : k ≤ c) (hk : k ≤ 1000000) (hr : Rd w w.heap.size A k (l.map bv)) (hx : Rd w w.heap.size Ai ni ((xs.map (fun x : Nat => (x : Int))).map iv)) (hni : ni ≤ 1100) (hci : ci ≤ maxLen) (hnc : ni ≤ ci)
    (hm1 : 1 ≤ mw) (hm2 : mw ≤ 8) (hw1 : 1 ≤ wd) (hw2 : wd ≤ 8) (hfit : ni < 256 ^ mw) (hall : ∀ x ∈ xs, x < 256 ^ wd) (h63 : ∀ x ∈ xs, x < 9223372036854775808) :
    Calls Tryd.prog 73 #[.slice A k c, .int .i64 (mw : Int), .int .i64 (wd : Int), .slice Ai ni ci] w (BytesPost w (l ++ (be mw ni ++ nums wd xs))) := by
  obtain ⟨iq, hiq, hzq, hsq, hbq⟩ := info_parts quadInfo
  have hxl : xs.length = ni := by simpa using hx.len
  have hll : l.length = k := by simpa using hr.len
  have Hxl := Lib.hid hxl
  have Hll := Lib.hid hll
  have H63 := Lib.hid h63
  have Hall := Lib.hid hall
  clear hxl hll h63 hall
  have Hpost := Lib.hid (show ∀ e w', BytesPost w (l ++ be mw ni ++ nums wd xs) e w' → BytesPost w (l ++ (be mw ni ++ nums wd xs)) e w' from fun e w' h => by rw [← List.append_assoc]; exact h)
  generalize BytesPost w (l ++ (be mw ni ++ nums wd xs)) = PO at *
  have hcm := hci
  unfold maxLen at hcm
  have hal := d_al w (.cells #[.int .u64 (ni : Int)] 57)
  have hz1 : (w.alloc (.cells #[.int .u64 (ni : Int)] 57)).heap.size = w.heap.size + 1 := by simp
  have hnum := Num_any A k c l (mw : Int) (some ⟨w.heap.size, 0, none⟩) 1 1 [ni] (w.alloc (.cells #[.int .u64 (ni : Int)] 57)) (by omega) (by omega) ((hr.below hal).more hal.size) (by rw [hz1]; exact Rd.mk_ _ _ _ rfl (by omega) rfl rfl) (fun i x hx => by
    cases i with
    | zero => simp at hx; omega
    | succ i => simp at hx)
  have hgd : Good (mw : Int) [ni] := ⟨by omega, by omega, fun i x hx => by
    cases i with
    | zero => simp at hx; subst hx; simpa using hfit
    | succ i => simp at hx⟩
  have zn : IntKind.u64.wrap (ni : Int) = (ni : Int) := by rw [IntKind.wrap_u64]; omega
  have hxb := fun wx (hb : Below w.heap.size w wx) => hx.below hb
  clear hr hx hfit hz1
  go_enter Tryd.func73, Tryd.ntmps73
  go_wp2_with fail
  refine hnum.mono ?_
  intro e w1 hp
  obtain ⟨hb1, A1, n1, c1, he, hnc1, hn1, hown1⟩ := NumPost.bytes (w := w) hp hgd hal
  subst he
  have Hn1 := Lib.hid (show n1 = k + mw by rw [hn1, List.length_append, Hll.out]; simp [nums, be_length])
  have Hl1 := Lib.hid (show l ++ nums (mw : Int).toNat [ni] = l ++ be mw ni by simp [nums])
  rw [Hl1.out] at hown1
  clear hnum hp hal hn1
  go_upto_region 5 with (at_make; refine wpList_make_own _ rfl _ _ 109 rfl w1.heap.size 57 iq _ 1 Tryd.underlying109 hiq hzq hsq _ _ _ ni rfl rfl (by simp) (by rw [hbq]; omega) (by simp only [maxLen]; omega) (Nat.le_refl _) ?_; intro w2 hown2 hgr2)
  try simp only [Act.put]
  have hb2 : Below w1.heap.size w1 w2 := (Below.refl _ _).grown hgr2 (Nat.le_refl _) (by simp)
  have hw1s := hb1.size
  clear hgr2
  go_wp2_with fail
  go_loopw [11, 13, 32] (fun v11 _ v32 wr => ∃ (j : Nat) (B : Option Addr) (d : Nat), j ≤ ni ∧ v32 = .int .i64 (j : Int) ∧ v11 = .slice B j d ∧ wr.ownsRow w1.heap.size 57 1 (.slice B j d) j ((xs.take j).map qv) ∧ Below w1.heap.size w1 wr) (fun _ _ v32 _ => ni - (intOf v32).toNat)
  case atStart => exact ⟨0, _, _, by omega, rfl, rfl, hown2, hb2⟩
  case round =>
    clear hown2 hb2
    obtain ⟨j, B, d, hj, rfl, rfl, hown, hb⟩ := hrel
    by_cases hjn : j < ni
    · have hjl : j < xs.length := by rw [Hxl.out]; exact hjn
      obtain ⟨bi, oi, y, rfl, hbi, hy, hcy⟩ := rdI_num (hxb wr (hb1.trans (hb.mono hw1s))) hjn
      have hy2 : xs[j]? = some xs[j] := List.getElem?_eq_getElem hjl
      obtain rfl : y = ((xs[j] : Nat) : Int) := by
        rw [List.getElem?_map, hy2] at hy
        exact (Option.some.inj hy).symm
      have hlt := H63.out _ (List.getElem_mem hjl)
      have Htk := Lib.hid (show (xs.take (j + 1)).map qv = (xs.take j).map qv ++ [qv xs[j]] by rw [List.take_succ_eq_append_getElem hjl, List.map_append]; rfl)
      generalize xs[j] = x at *
      have zx : IntKind.u64.wrap (x : Int) = (x : Int) := by rw [IntKind.wrap_u64]; omega
      have zj : (j : Int) < (ni : Int) := by omega
      have hal := d_al wr (.cells #[.int .u64 (x : Int)] 57)
      have hown3 := own_below hown hal
      have hz3 : (wr.alloc (.cells #[.int .u64 (x : Int)] 57)).heap.size = wr.heap.size + 1 := by simp
      have hwb := hb.size
      have hone : ∀ u ∈ [Value.int .u64 (x : Int)], u.oneCell' = true := by intro u hu; simp at hu; subst hu; rfl
      have hba := hb.trans (hal.mono hwb)
      clear hy hy2 hown hlt
      go_wp2_with (at_builtin; refine wpList_append_rd _ rfl (.tmp 36) (.tmp 39) _ rfl w1.heap.size 57 iq _ 8 Tryd.underlying109 hiq hzq hsq hbq rfl (.slice B j d) j _ rfl hown3 (wr.heap.size + 1) (some ⟨wr.heap.size, 0, none⟩) 1 1 [.int .u64 (x : Int)] rfl (Rd.mk_ _ _ _ rfl (by omega) rfl rfl) hone (by simp only [maxLen]; omega) (by omega) (by rw [hz3]; omega) ?_; intro v4 w4 hown4 hgr4 hat4; obtain ⟨B4, d4, rfl, _, _⟩ := own_form hown4)
      go_roundw
      case rel => exact ⟨j + 1, B4, d4, by omega, by go_num, rfl, by rw [Htk.out]; exact hown4, hba.grown hgr4 (Nat.le_trans hwb hal.size) (fun q hq => (hown3.lt q hq).1)⟩
      case measure => simp [intOf]; omega
    · obtain rfl : j = ni := by omega
      rw [List.take_of_length_le (by rw [Hxl.out]; exact Nat.le_refl _)] at hown
      have hold := hb1.trans (hb.mono hw1s)
      have hnum2 := Num_any A1 n1 c1 (l ++ be mw j) (wd : Int) B j d xs wr (by have := Hn1.out; omega) (by omega) (((Rd.of_own hown1).below hb).more hb.size) (Rd.of_own hown) (fun i x hx => by have := H63.out x (List.mem_of_getElem? hx); omega)
      have hgd2 : Good (wd : Int) xs := ⟨by omega, by omega, fun i x hx => by have := Hall.out x (List.mem_of_getElem? hx); simpa using this⟩
      clear hown hown1 hb
      go_wp2_with fail
      refine hnum2.mono ?_
      intro e w5 hp
      have HB := NumPost.bytes (w := w) hp hgd2 hold
      have HF := Lib.hid (Hpost.out e w5 (by simpa using HB))
      obtain ⟨hq1, A5, n5, c5, he, hq2, hq3, hq4⟩ := HB
      subst he
      clear hnum2 hp hq1 hq2 hq3 hq4
      go_wp2_with fail
      exact HF.out

/-- a shape's text -/
def shapeT (ids : List Int) (ll : List (List Int)) : List UInt8 := (be 2 ids.length ++ ids.flatMap idB) ++ (UInt8.ofNat ll.length :: ll.flatMap lvB)
theorem castNat : ∀ {l : List Int}, (∀ x ∈ l, 0 ≤ x) → (l.map Int.toNat).map (fun x : Nat => (x : Int)) = l
  | [], _ => rfl
  | x :: l, h => by
    rw [List.map_cons, List.map_cons, castNat (fun y hy => h y (by simp [hy]))]
    congr 1
    exact Int.toNat_of_nonneg (h x (by simp))
theorem nums4 (l : List Int) : nums 4 (l.map Int.toNat) = l.flatMap idB := by
  rw [nums, List.map_map, List.flatMap]
  rfl
theorem nums1 : ∀ (l : List Int), nums 1 (l.map Int.toNat) = l.map byteU
  | [] => rfl
  | x :: l => by
    have := nums1 l
    rw [nums] at this ⊢
    rw [List.map_cons, List.map_cons, List.flatten_cons, List.map_cons, this]
    rfl
theorem shapeT_len {ids : List Int} {ll : List (List Int)} (h1 : ids.length ≤ 1100) (h2 : ll.length ≤ 20) (h3 : ∀ l ∈ ll, l.length ≤ 1100) : (shapeT ids ll).length ≤ 100000 := by
  have e1 := flat_le (f := idB) (m := 4) ids (fun x _ => by rw [idB, be_length]; exact Nat.le_refl _)
  have e2 := flat_le (f := lvB) (m := 1102) ll (fun x hx => by
    rw [lvB, List.length_append, be_length, List.length_map]
    have := h3 x hx
    omega)
  rw [shapeT, List.length_append, List.length_append, be_length, List.length_cons]
  have : 1102 * ll.length ≤ 1102 * 20 := Nat.mul_le_mul_left _ h2
  omega

set_option maxRecDepth 100000 in
set_option maxHeartbeats 4000000 in
theorem PPutShape13 (A : Option Addr) (k c : Nat) (l : List UInt8) (Ai : Option Addr) (ni ci : Nat) (Al : Option Addr) (nl cl : Nat) (ids : List Int) (ll : List (List Int)) (w : World) (h : ShR w w.heap.size Ai ni ci Al nl cl ids ll) (hkc : k ≤ c) (hk : k ≤ 100000) (hr : Rd w w.heap.size A k (l.map bv))
    (h1 : ids.length ≤ 1100) (h2 : ll.length ≤ 20) (h3 : ∀ l ∈ ll, l.length ≤ 1100) (h4 : ∀ x ∈ ids, 0 ≤ x ∧ x ≤ 1048576) (h5 : ∀ l ∈ ll, ∀ x ∈ l, x = 2 ∨ x = 3) :
    Calls Tryd.prog 44 #[.slice A k c, .agg (shV Ai ni ci Al nl cl)] w (BytesPost w (l ++ shapeT ids ll)) := by
  have hM := (Ms.nil w).box 25 (shV Ai ni ci Al nl cl)
  have hll : l.length = k := by simpa using hr.len
  have Hll := Lib.hid hll
  have hni := h.hni
  have hnl := h.hnl
  have Hni := Lib.hid hni
  have Hnl := Lib.hid hnl
  have hn1 : ni ≤ 1100 := by omega
  have hn2 : nl ≤ 20 := by omega
  have H3 := Lib.hid h3
  have H5 := Lib.hid h5
  have Hlen := Lib.hid (shapeT_len h1 h2 h3)
  have hp1 := fun wx (hb : Below w.heap.size w wx) => PPutList13 A k c l 2 4 Ai ni ci (ids.map Int.toNat) wx hkc (by omega) ((hr.below hb).more hb.size) (by rw [castNat (fun x hx => (h4 x hx).1)]; exact (h.hids.below hb).more hb.size) hn1 h.hmi h.hci (by omega) (by omega) (by omega) (by omega) (by omega) (fun x hx => by
    obtain ⟨y, hy, rfl⟩ := List.mem_map.1 hx
    have := h4 y hy
    omega) (fun x hx => by
    obtain ⟨y, hy, rfl⟩ := List.mem_map.1 hx
    have := h4 y hy
    omega)
  rw [nums4] at hp1
  have hlb := fun wx (hb : Below w.heap.size w wx) => h.below hb
  have hcl := h.hcl
  have hml := h.hml
  unfold maxLen at hml
  have Hpost := Lib.hid (show ∀ e w', BytesPost w (l ++ shapeT ids ll) e w' → BytesPost w (l ++ shapeT ids ll) e w' from fun _ _ h => h)
  generalize hPO : BytesPost w (l ++ shapeT ids ll) = PO at *
  have HPO := Lib.hid hPO
  clear hPO hll hni hnl hr h h1 h2 h3 h4 h5
  go_enter Tryd.func44, Tryd.ntmps44
  go_upto_region 1 with fail
  try simp only [Act.put]
  obtain ⟨g, hg⟩ : ∃ g, g = w.heap.size := ⟨_, rfl⟩
  rw [← hg] at hM ⊢
  refine wp_gen (fun wx => Ms w wx [(g, 25, shV Ai ni ci Al nl cl)]) hM ?_
  clear hM hg
  rintro w0 hM0
  have c0 := (hM0.get 0 rfl).cell (i := 0) (v := .slice Ai ni ci) rfl
  go_wp2_with fail
  refine (hp1 _ hM0.old).mono ?_
  rintro e w1 ⟨hb1, A1, n1, c1, he, hnc1, hn1e, hown1⟩
  subst he
  have hM1 := hM0.call hb1
  have hold := hM1.old
  have hw1 := hold.size
  have ho1 := own_lower hown1 hM0.old.size
  have Hn1 := Lib.hid hn1e
  have hnb : n1 ≤ 200000 := by
    have h1 := Hlen.out
    rw [shapeT, List.length_append, List.length_append] at h1
    rw [hn1e, List.length_append, List.length_append, Hll.out]
    have := Hni.out
    rw [be_length] at h1 ⊢
    omega
  have c1' := (hM1.get 0 rfl).cell (i := 1) (v := .slice Al nl cl) rfl
  have zn : IntKind.u64.wrap (nl : Int) = (nl : Int) := by rw [IntKind.wrap_u64]; omega
  have hal := d_al w1 (.cells #[.int .u64 (nl : Int)] 57)
  have hz1 : (w1.alloc (.cells #[.int .u64 (nl : Int)] 57)).heap.size = w1.heap.size + 1 := by simp
  have hnum := Num_any A1 n1 c1 _ 1 (some ⟨w1.heap.size, 0, none⟩) 1 1 [nl] (w1.alloc (.cells #[.int .u64 (nl : Int)] 57)) (by omega) (by omega) (((Rd.of_own hown1).below hal).more hal.size) (by rw [hz1]; exact Rd.mk_ _ _ _ rfl (by omega) rfl rfl) (fun i x hx => by
    cases i with
    | zero => simp at hx; omega
    | succ i => simp at hx)
  have hgd : Good 1 [nl] := ⟨by omega, by omega, fun i x hx => by
    cases i with
    | zero => simp at hx; rw [show ((1 : Int).toNat) = 1 from rfl]; omega
    | succ i => simp at hx⟩
  have hMa := hM1.call hal
  clear hM0 hM1 hb1 hown1 hp1 hn1e c0 hz1
  go_wp2_with fail
  refine hnum.mono ?_
  intro e w2 hp
  obtain ⟨hb2, A2, n2, c2, he, hnc2, hn2e, hown2⟩ := NumPost.bytes (w := w) hp hgd hMa.old
  subst he
  have hM2 := hMa.call (show Below (w1.alloc (.cells #[.int .u64 (nl : Int)] 57)).heap.size (w1.alloc (.cells #[.int .u64 (nl : Int)] 57)) w2 from hp.1)
  have c2' := (hM2.get 0 rfl).cell (i := 1) (v := .slice Al nl cl) rfl
  have HT2 := Lib.hid (show l ++ (be 2 ni ++ ids.flatMap idB) ++ nums (1 : Int).toNat [nl] = l ++ ((be 2 ids.length ++ ids.flatMap idB) ++ (UInt8.ofNat ll.length :: ([] : List (List Int)).flatMap lvB)) by
    rw [Hni.out, Hnl.out, List.append_assoc]
    rfl)
  rw [HT2.out] at hown2 hn2e
  have HN2 := Lib.hid hn2e
  clear hnum hp hal hMa hM2 c1' hn2e ho1
  go_wp2_with fail
  go_loopw [0, 6, 8, 35] (fun v0 _ _ v35 wr => ∃ (j n : Nat) (A : Option Addr) (c : Nat), j ≤ nl ∧ v35 = .int .i64 (j : Int) ∧ v0 = .slice A n c ∧ n ≤ c ∧ Hid (n = (l ++ ((be 2 ids.length ++ ids.flatMap idB) ++ (UInt8.ofNat ll.length :: (ll.take j).flatMap lvB))).length) ∧ wr.ownsRow w.heap.size 5 1 (.slice A n c) n ((l ++ ((be 2 ids.length ++ ids.flatMap idB) ++ (UInt8.ofNat ll.length :: (ll.take j).flatMap lvB))).map bv) ∧ Below w.heap.size w wr) (fun _ _ _ v35 _ => nl - (intOf v35).toNat)
  case atStart => exact ⟨0, n2, A2, c2, by omega, rfl, rfl, hnc2, HN2, hown2, hb2⟩
  case round =>
    clear hown2 hb2
    obtain ⟨j, n, A, c, hj, rfl, rfl, hnc, Hn, hown, hb⟩ := hrel
    by_cases hjn : j < nl
    · have hjl : j < ll.length := by rw [Hnl.out]; exact hjn
      have hS := hlb wr hb
      obtain ⟨vs, hrv, hlv⟩ := hS.lvs
      obtain ⟨b, o, rfl, hbb, hc⟩ := hrv.pos (show 0 < nl by omega)
      obtain ⟨A3, c3, hv3, hc3, hm3, hr3⟩ := hlv.get hjl
      have hcell := hc j _ hv3
      have zj : (j : Int) < (nl : Int) := by omega
      have hl3 := H3.out _ (List.getElem_mem hjl)
      have h23 := H5.out _ (List.getElem_mem hjl)
      have Htk := Lib.hid (show (ll.take (j + 1)).flatMap lvB = (ll.take j).flatMap lvB ++ lvB ll[j] by rw [List.take_succ_eq_append_getElem hjl, List.flatMap_append]; simp)
      have hnb2 : n ≤ 300000 := by
        have h1 := Hlen.out
        have h2 := Hn.out
        have h3 : ((ll.take j).flatMap lvB).length ≤ (ll.flatMap lvB).length := by
          conv => rhs; rw [← List.take_append_drop j ll, List.flatMap_append, List.length_append]
          omega
        rw [shapeT, List.length_append, List.length_append, List.length_cons] at h1
        rw [List.length_append, List.length_append, List.length_append, List.length_cons] at h2
        have := Hll.out
        omega
      generalize ll[j] = y at *
      have hpl := PPutList13 A n c _ 2 1 A3 y.length c3 (y.map Int.toNat) wr hnc (by omega) (Rd.of_own hown) (by rw [castNat (fun x hx => by rcases h23 x hx with h | h <;> omega)]; exact hr3.more hb.size) (by omega) hm3 hc3 (by omega) (by omega) (by omega) (by omega) (by omega) (fun x hx => by
        obtain ⟨z, hz, rfl⟩ := List.mem_map.1 hx
        rcases h23 z hz with rfl | rfl <;> decide) (fun x hx => by
        obtain ⟨z, hz, rfl⟩ := List.mem_map.1 hx
        rcases h23 z hz with rfl | rfl <;> decide)
      rw [nums1] at hpl
      have HT := Lib.hid (show (l ++ ((be 2 ids.length ++ ids.flatMap idB) ++ (UInt8.ofNat ll.length :: (ll.take j).flatMap lvB))) ++ (be 2 y.length ++ y.map byteU) = l ++ ((be 2 ids.length ++ ids.flatMap idB) ++ (UInt8.ofNat ll.length :: (ll.take (j + 1)).flatMap lvB)) by
        rw [Htk.out, lvB]
        simp only [List.append_assoc, List.cons_append])
      rw [HT.out] at hpl
      clear hS hrv hlv hc hv3 hr3 hown h23
      go_wp2_with fail
      refine hpl.mono ?_
      rintro e w4 ⟨hb4, A4, n4, c4, he, hnc4, hn4, hown4⟩
      subst he
      have HN4 := Lib.hid hn4
      have hbb4 := hb.trans (hb4.mono hb.size)
      have ho4 := own_lower hown4 hb.size
      clear hpl hown4 hb4 hn4 hb
      go_wp2_with fail
      go_roundw
      case rel => exact ⟨j + 1, n4, A4, c4, by omega, by go_num, rfl, hnc4, HN4, ho4, hbb4⟩
      case measure => simp [intOf]; omega
    · obtain rfl : j = nl := by omega
      have HF := Lib.hid (show PO (.returned (.tuple #[.slice A n c, .int .i64 0])) wr by
        rw [← HPO.out]
        refine ⟨hb, A, n, c, rfl, hnc, ?_, ?_⟩
        · have := Hn.out
          rwa [List.take_of_length_le (by rw [Hnl.out]; exact Nat.le_refl _)] at this
        · rwa [List.take_of_length_le (by rw [Hnl.out]; exact Nat.le_refl _)] at hown)
      clear hown hb
      go_wp2_with fail
      exact HF.out

end Go.Proofs.YtlidhdljgnijaaaDoor

/-
  CONTRACT of the program's tag.Write.
-/
set_option linter.unusedVariables false
namespace Go.Proofs.YtlidhdljgnijaaaDoor
open Go.RowKit

theorem writeT_shape (kind : Int) (ids : List Int) (ll : List (List Int)) (ps : List UInt8) : writeT kind ids ll ps = ([byteU kind] ++ shapeT ids ll) ++ ps := by
  rw [writeT, shapeT]
  simp only [List.append_assoc, List.cons_append, List.nil_append]
theorem take_keys {ps : List UInt8} {np j : Nat} (h : ps.length = np * 32) (hj : j < np) : ps.take ((j + 1) * 32) = ps.take (j * 32) ++ keyI ps j := by
  rw [keyI, Nat.succ_mul, List.take_add]

set_option maxRecDepth 100000 in
set_option maxHeartbeats 4000000 in
theorem PWrite13 (kind : Int) (Ai : Option Addr) (ni ci : Nat) (Al : Option Addr) (nl cl : Nat) (ids : List Int) (ll : List (List Int)) (Ap : Option Addr) (np cp : Nat) (ps : List UInt8) (w : World) (h : TgR w w.heap.size Ai ni ci Al nl cl ids ll Ap np cp ps) (hf : fewT ids ll = true) :
    Calls Tryd.prog 17 #[.agg (tgV kind Ai ni ci Al nl cl Ap np cp)] w (WritePost w (okG kind ids ll np ps) (writeT kind ids ll ps)) := by
  obtain ⟨i0, hi0, hz0, hz1, hz2⟩ := info_parts byteInfo
  have hM := (Ms.nil w).box 28 (tgV kind Ai ni ci Al nl cl Ap np cp)
  have hck := fun wx (hb : Below w.heap.size w wx) => PCheck13 kind Ai ni ci Al nl cl ids ll Ap np cp ps wx ((h.below hb).more hb.size) hf
  have Hpost := Lib.hid (show (∀ w', Below w.heap.size w w' → okG kind ids ll np ps = false → WritePost w (okG kind ids ll np ps) (writeT kind ids ll ps) (.returned (.tuple #[.slice none 0 0, .int .i64 1])) w') ∧ (∀ w' A n c l, Below w.heap.size w w' → okG kind ids ll np ps = true → w'.ownsRow w.heap.size 5 1 (.slice A n c) n (l.map bv) → l = writeT kind ids ll ps → WritePost w (okG kind ids ll np ps) (writeT kind ids ll ps) (.returned (.tuple #[.slice A n c, .int .i64 0])) w') from
    ⟨fun w' h1 h2 => ⟨h1, .inl ⟨h2, rfl⟩⟩, fun w' A n c l h1 h2 h3 h4 => ⟨h1, .inr ⟨h2, A, n, c, rfl, by rw [← h4]; exact h3⟩⟩⟩)
  generalize WritePost w (okG kind ids ll np ps) (writeT kind ids ll ps) = PO at *
  go_enter Tryd.func17, Tryd.ntmps17
  go_upto_region 1 with fail
  try simp only [Act.put]
  obtain ⟨g, hg⟩ : ∃ g, g = w.heap.size := ⟨_, rfl⟩
  rw [← hg] at hM ⊢
  refine wp_gen (fun wx => Ms w wx [(g, 28, tgV kind Ai ni ci Al nl cl Ap np cp)]) hM ?_
  clear hM
  have Hg := Lib.hid hg
  clear hg
  rintro w0 hM0
  go_wp2_with ((with_reducible show wpList _ _ _ (⟨some 9, _, _, _, _, _⟩ :: _) _ _); refine wpList_loadC (by kernel_rfl) 28 (.tmp 1) rfl g rfl 28 (tgV kind Ai ni ci Al nl cl Ap np cp) _ (hM0.get 0 rfl) Tryd.underlying28 rfl tgInfo2 ?_)
  refine (hck _ hM0.old).mono ?_
  rintro e w1 ⟨he, hb1⟩
  subst he
  have hM1 := hM0.call hb1
  have hold := hM1.old
  clear hM0 hb1 hck
  by_cases hok : okG kind ids ll np ps = true
  rotate_left
  · have HF := Lib.hid (Hpost.out.1 w1 hold (by simpa using hok))
    rw [chkG, if_neg hok]
    clear hM1
    go_wp2_with fail
    exact HF.out
  rw [chkG, if_pos hok]
  have Hok := Lib.hid hok
  have hm := okG_mayD hok
  obtain ⟨hf1, hf2, hf3⟩ := few_len hf
  have hnp : np ≤ 2000 := by
    rw [okG, Bool.and_eq_true, Bool.and_eq_true, Bool.and_eq_true, decide_eq_true_eq, decide_eq_true_eq] at hok
    have h2 := nodesI_le kind ids ll
    omega
  have Hpl := Lib.hid h.pts.len
  have hpu := fun wx (hb : Below w.heap.size w wx) (A : Option Addr) (c : Nat) (hc : 1 ≤ c) (hr : Rd wx wx.heap.size A 1 ([byteU kind].map bv)) => PPutShape13 A 1 c [byteU kind] Ai ni ci Al nl cl ids ll wx ((h.sh.below hb).more hb.size) hc (by omega) hr hf2 hf3 hf1 (okI_mem (chkT_lv hm.2.1).2.1) (fun l hl x hx => by
    have h1 := (chkT_lv hm.2.1).2.2.2 l hl
    rw [in23, List.all_eq_true] at h1
    simpa using h1 x hx)
  have hky := fun wx (hb : Below w.heap.size w wx) => h.pts.below hb
  have Hlen := Lib.hid (shapeT_len hf2 hf3 hf1)
  obtain ⟨kn, rfl, hkn⟩ : ∃ kn : Nat, kind = (kn : Int) ∧ kn < 256 := by
    rcases hm.1 with rfl | rfl
    · exact ⟨1, rfl, by omega⟩
    · exact ⟨2, rfl, by omega⟩
  have hcp : np ≤ maxLen := Nat.le_trans h.pts.hnc h.pts.hcm
  have c0 := (hM1.get 0 rfl).cell (i := 0) (v := .int .i64 (kn : Int)) rfl
  have zk : IntKind.u64.wrap (kn : Int) = (kn : Int) := by rw [IntKind.wrap_u64]; omega
  have hal := d_al w1 (.cells #[.int .u64 (kn : Int)] 57)
  have hz1' : (w1.alloc (.cells #[.int .u64 (kn : Int)] 57)).heap.size = w1.heap.size + 1 := by simp
  have hnum := Num_any none 0 0 [] 1 (some ⟨w1.heap.size, 0, none⟩) 1 1 [kn] (w1.alloc (.cells #[.int .u64 (kn : Int)] 57)) (by omega) (by omega) (Rd.zero _ _ _) (by rw [hz1']; exact Rd.mk_ _ _ _ rfl (by omega) rfl rfl) (fun i x hx => by
    cases i with
    | zero => simp at hx; omega
    | succ i => simp at hx)
  have hgd : Good 1 [kn] := ⟨by omega, by omega, fun i x hx => by
    cases i with
    | zero => simp at hx; rw [show ((1 : Int).toNat) = 1 from rfl]; omega
    | succ i => simp at hx⟩
  have hMa := hM1.call hal
  clear hM1 hold hok hm hf1 hf2 hf3 hz1' h
  go_wp2_with fail
  refine hnum.mono ?_
  intro e w2 hp
  obtain ⟨hb2, A2, n2, c2, he, hnc2, hn2e, hown2⟩ := NumPost.bytes (w := w) hp hgd hMa.old
  subst he
  have hM2 := hMa.call (show Below (w1.alloc (.cells #[.int .u64 (kn : Int)] 57)).heap.size (w1.alloc (.cells #[.int .u64 (kn : Int)] 57)) w2 from hp.1)
  rw [show ([] : List UInt8) ++ nums (1 : Int).toNat [kn] = [byteU (kn : Int)] from rfl] at hown2 hn2e
  obtain rfl : n2 = 1 := hn2e
  have hps := hpu w2 hM2.old A2 c2 hnc2 (Rd.of_own hown2)
  have hr1 := tg_sh (hM2.get 0 rfl)
  clear hnum hp hal hMa hpu c0 hown2
  go_wp2_with ((with_reducible show wpList _ _ _ (⟨some 28, _, _, _, _, _⟩ :: _) _ _); refine wpList_load_midG (by kernel_rfl) 25 (.tmp 27) rfl g 1 rfl (shV Ai ni ci Al nl cl).toList _ hr1 Tryd.underlying25 rfl shapeInfo2 ?_)
  refine hps.mono ?_
  rintro e w3 ⟨hb3, A3, n3, c3, he, hnc3, hn3, hown3⟩
  subst he
  have hM3 := hM2.call hb3
  have ho3 := own_lower hown3 hM2.old.size
  have hold3 := hM3.old
  have cp3 := (hM3.get 0 rfl).cell (i := 3) (v := .slice Ap np cp) rfl
  have Hn3 := Lib.hid hn3
  have hn3b : n3 ≤ 100001 := by
    have := Hlen.out
    rw [hn3, List.length_append]
    simp only [List.length_cons, List.length_nil]
    omega
  clear hM2 hps hb3 hown3 hn3 hr1 hb2
  go_wp2_with fail
  go_loopw [5, 38] (fun v5 v38 wr => ∃ (j n : Nat) (A : Option Addr) (c : Nat), j ≤ np ∧ v38 = .int .i64 (j : Int) ∧ v5 = .slice A n c ∧ n = n3 + j * 32 ∧ wr.ownsRow w.heap.size 5 1 (.slice A n c) n ((([byteU (kn : Int)] ++ shapeT ids ll) ++ ps.take (j * 32)).map bv) ∧ Below w.heap.size w wr) (fun _ v38 _ => np - (intOf v38).toNat)
  case atStart => exact ⟨0, n3, A3, c3, by omega, rfl, rfl, by omega, by rw [Nat.zero_mul, List.take_zero, List.append_nil]; exact ho3, hold3⟩
  case round =>
    clear ho3 hold3 hM3 cp3
    obtain ⟨j, n, A, c, hj, rfl, rfl, hn, hown, hb⟩ := hrel
    have hnb : n ≤ 200000 := by omega
    have Hn := Lib.hid hn
    clear hn
    by_cases hjn : j < np
    · obtain ⟨bp, op, rfl, hbp, hrp⟩ := (hky wr hb).range hjn
      have hkl := keyI_len Hpl.out hjn
      have Htk := Lib.hid (take_keys Hpl.out hjn)
      generalize keyI ps j = ky at *
      have hsk := sizeKeyL hkl
      have hsa := sizeKey hkl
      have hone := one_keyF ky
      have zj : (j : Int) < (np : Int) := by omega
      have hMk := (Ms.nil wr).put 36 (keyC zeroK) (keyC ky)
      rw [keyC_zero] at hMk
      go_upto_region 13 with (first
        | ((with_reducible show wpList _ _ _ (⟨some 41, _, _, _, _, _⟩ :: _) _ _); refine wpList_load_midG (by kernel_rfl) 36 (.tmp 40) rfl bp (op + j * 32) rfl (keyC ky).toList _ hrp Tryd.underlying36 rfl hsk ?_)
        | ((with_reducible show wpList _ _ _ (⟨none, Op.store 36 _ _, _, _, _, _⟩ :: _) _ _); refine wpList_store_row rfl 36 (.tmp 8) (.tmp 41) rfl wr.heap.size (keyC ky) rfl rfl 36 _ (RowC.new _ _ _) hsa (by rw [keyC_size, hkl]; rfl) hone ?_))
      try simp only [Act.put]
      obtain ⟨gk, hgk⟩ : ∃ q, q = wr.heap.size := ⟨_, rfl⟩
      rw [← hgk] at hMk ⊢
      refine wp_gen (fun wx => Ms wr wx [(gk, 36, keyC ky)]) hMk ?_
      clear hMk hgk hsk hsa hone hrp
      rintro w4 hM4
      have hr4 : Rd w4 w4.heap.size (some ⟨gk, 0, none⟩) 32 (ky.map bv) := rd_key (hM4.get 0 rfl).lt hkl (hM4.get 0 rfl).range
      have hown4 := own_below hown hM4.old
      have hb4 := hb.trans (hM4.old.mono hb.size)
      clear hown hb hM4
      go_wp2_with (at_builtin; refine wpList_append_rd _ rfl (.tmp 42) (.tmp 43) _ rfl w.heap.size 5 i0 _ 1 Tryd.underlying41 hi0 hz0 hz1 hz2 rfl (.slice A n c) n _ rfl hown4 w4.heap.size (some ⟨gk, 0, none⟩) 32 32 (ky.map bv) rfl hr4 (one_bv _) (by simp only [maxLen]; omega) (by omega) hb4.size ?_; intro v5 w5 hown5 hgr5 hat5; obtain ⟨A5, c5, rfl, _, _⟩ := own_form hown5)
      go_roundw
      case rel => exact ⟨j + 1, n + 32, A5, c5, by omega, by go_num, rfl, by have := Hn.out; omega, by rw [Htk.out, ← List.append_assoc, List.map_append]; exact hown5, hb4.grown hgr5 hb4.size (fun q hq => (hown4.lt q hq).1)⟩
      case measure => simp [intOf]; omega
    · obtain rfl : j = np := by omega
      have HF := Lib.hid (Hpost.out.2 wr A n c _ hb Hok.out hown (by rw [List.take_of_length_le (by rw [Hpl.out]; exact Nat.le_refl _), writeT_shape]))
      clear hown hb
      go_wp2_with fail
      exact HF.out

end Go.Proofs.YtlidhdljgnijaaaDoor

/-
  THE PROGRAM'S FUNCTIONS OF LAYER 13 are what the laws over hypotheses ask.
-/
set_option linter.unusedVariables false
namespace Go.Proofs.YtlidhdljgnijaaaDoor
open Go.RowKit

theorem tgC : HGC := PCheck13
theorem tgS : HGS := PSums13
theorem tgU : HGU := PSum13
theorem tgL : HGL := PLeaf13
theorem tgW : HGW := PWrite13
end Go.Proofs.YtlidhdljgnijaaaDoor

