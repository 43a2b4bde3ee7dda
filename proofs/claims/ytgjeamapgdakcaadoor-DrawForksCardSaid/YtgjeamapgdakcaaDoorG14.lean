import Derived.Test.YtgjeamapgdakcaaDoorG13
/-
  THE CONTRACT of the program's taken (package sha): parts go into a sum that is not done.
-/
set_option linter.unusedVariables false
namespace Go.Proofs.YtgjeamapgdakcaaDoor
open Go.RowKit

/-- what holds when s bytes of all have been gone through -/
structure TkInv (w wr : World) (gs gb gr : Nat) (h : List UInt32) (all : List UInt8) (N : Nat) (rv : Value) (s : Nat) : Prop where
  sha : ShaAt wr gs (blocksTo h all (s / 64)) N rv
  blk : ∃ L : List UInt8, L.length = 64 ∧ L.take (s % 64) = (all.drop (64 * (s / 64))).take (s % 64) ∧ ArrB wr gb 73 L
  res : ∃ cs : Array Value, cs.size = 10 ∧ wr.heap[gr]? = some (.cells cs 59 (0, 0))
  bel : Below w.heap.size w wr

theorem blk_more {all L : List UInt8} {s r : Nat} (hL : L.length = 64) (hs : L.take (s % 64) = (all.drop (64 * (s / 64))).take (s % 64)) (hr : s % 64 + r ≤ 64) (ha : s + r ≤ all.length) :
    (splice L (s % 64) ((all.drop s).take r)).take (s % 64 + r) = (all.drop (64 * (s / 64))).take (s % 64 + r) := by
  have hl : ((all.drop s).take r).length = r := by simp; omega
  have e : all.drop s = (all.drop (64 * (s / 64))).drop (s % 64) := by rw [List.drop_drop]; congr 1; omega
  unfold splice
  rw [hl, ← List.append_assoc, List.take_append_of_le_length (by rw [List.length_append, hl, List.length_take]; omega), hs,
    List.take_of_length_le (by rw [List.length_append, hl, List.length_take]; omega), e, List.take_add]
theorem splice_len64 {L cs : List UInt8} {o : Nat} (hL : L.length = 64) (h : o + cs.length ≤ 64) : (splice L o cs).length = 64 := by rw [length_splice _ _ _ (by omega), hL]

theorem TkInv.within {w wr wr' : World} {gs gb gr N s r : Nat} {h : List UInt32} {all L : List UInt8} {rv : Value} (k : TkInv w wr gs gb gr h all N rv s) (hL : L.length = 64) (hs : L.take (s % 64) = (all.drop (64 * (s / 64))).take (s % 64))
    (hr : s % 64 + r < 64) (ha : s + r ≤ all.length) (hw : wr' = wr.setRow gb ((splice L (s % 64) ((all.drop s).take r)).map bv).toArray) (hB : ArrB wr gb 73 L) (h1 : gs ≠ gb) (h2 : gr ≠ gb) (h3 : w.heap.size ≤ gb) :
    TkInv w wr' gs gb gr h all N rv (s + r) := by
  subst hw
  have e1 : (s + r) / 64 = s / 64 := by omega
  have e2 : (s + r) % 64 = s % 64 + r := by omega
  obtain ⟨cs, c1, c2⟩ := k.res
  refine ⟨by rw [e1]; exact k.sha.rowFar h1 _, ⟨_, splice_len64 hL (by simp; omega), ?_, hB.row _⟩, ⟨cs, c1, (setRow_other _ _ _ _ h2).trans c2⟩, below_setRow k.bel h3 _⟩
  rw [e1, e2]
  exact blk_more hL hs (by omega) ha

theorem chunk_full {all L : List UInt8} {s r : Nat} (hL : L.length = 64) (hs : L.take (s % 64) = (all.drop (64 * (s / 64))).take (s % 64)) (hr : s % 64 + r = 64) (ha : s + r ≤ all.length) :
    splice L (s % 64) ((all.drop s).take r) = chunk all (s / 64) := by
  have h := blk_more hL hs (by omega) ha
  rw [hr] at h
  rw [chunk, ← h]
  exact (List.take_of_length_le (by rw [splice_len64 hL (by simp; omega)]; exact Nat.le_refl _)).symm

theorem TkInv.setN {w wr : World} {gs gb gr N s : Nat} {h : List UInt32} {all : List UInt8} {rv : Value} (k : TkInv w wr gs gb gr h all N rv s) (N' : Nat) (x : Int) (hx : x = (N' : Int)) (h1 : gb ≠ gs) (h2 : gr ≠ gs) (h3 : w.heap.size ≤ gs) :
    TkInv w (wr.setCell ⟨gs, 8, none⟩ (.int .u64 x)) gs gb gr h all N' rv s := by
  subst hx
  obtain ⟨cs, c1, c2⟩ := k.res
  obtain ⟨L, l1, l2, l3⟩ := k.blk
  exact ⟨k.sha.setN N', ⟨L, l1, l2, l3.far h1 _⟩, ⟨cs, c1, (Below.heap_setCell _ _ _ _ h2).trans c2⟩, k.bel.setCell h3 _⟩
theorem TkInv.drewN {w wr : World} {gs gb gr N s : Nat} {h : List UInt32} {all : List UInt8} {rv : Value} (k : TkInv w wr gs gb gr h all N rv s) (m : Nat) : TkInv w (wr.drewN m) gs gb gr h all N rv s := by
  obtain ⟨cs, c1, c2⟩ := k.res
  obtain ⟨L, l1, l2, l3⟩ := k.blk
  exact ⟨k.sha.drewN m, ⟨L, l1, l2, l3.drewN m⟩, ⟨cs, c1, c2⟩, k.bel.trans ⟨rfl, rfl, rfl, Nat.le_refl _, fun _ _ => rfl⟩⟩

theorem all_at {rest : List UInt8} {ts : List (List UInt8)} {q : Nat} {t : List UInt8} (h : ts[q]? = some t) {j r : Nat} (hj : j + r ≤ t.length) :
    ((rest ++ ts.flatten).drop (rest.length + (ts.take q).flatten.length + j)).take r = (t.drop j).take r := by
  have e : ts.flatten = (ts.take q).flatten ++ (t ++ (ts.drop (q + 1)).flatten) := by
    conv => lhs; rw [← List.take_append_drop q ts, List.flatten_append]
    congr 1
    have hq : q < ts.length := (List.getElem?_eq_some_iff.1 h).1
    rw [List.drop_eq_getElem_cons hq, List.flatten_cons]
    congr 1
    exact (List.getElem?_eq_some_iff.1 h).2
  rw [e, ← List.append_assoc, ← List.drop_drop, ← List.length_append, List.drop_left, List.drop_append_of_le_length (by omega), List.take_append_of_le_length (by simp; omega)]

theorem infoSha : (Tryd.prog.info? 59).map (·.size) = some 10 := by kernel_rfl
theorem one_sha (h : List UInt32) (n : Nat) (A : Option Addr) (k c : Nat) : ((shaL h n (.slice A k c)).toArray).all (·.oneCell') = true := by
  rw [Array.all_eq_true_iff_forall_mem]
  intro v hv
  simp only [shaL, List.mem_toArray, List.mem_append, List.mem_map, List.mem_cons, List.not_mem_nil, or_false] at hv
  rcases hv with ⟨x, _, rfl⟩ | rfl | rfl <;> rfl
set_option maxRecDepth 1000000 in
set_option maxHeartbeats 2000000 in
theorem taken_any (h : List UInt32) (n : Nat) (A : Option Addr) (k c : Nat) (rest : List UInt8) (At : Option Addr) (m ct : Nat) (vs : List Value) (ts : List (List UInt8)) (w : World)
    (hh : h.length = 8) (hk : k < 64) (hr : Rd w w.heap.size A k (rest.map bv)) (hm : m ≤ 5864062014805) (htot : ts.flatten.length ≤ 1099511627776) (hn : n ≤ 4398046511104)
    (hv : Rd w w.heap.size At m vs) (ht : Txs w w.heap.size vs ts) (hT : CTab w) :
    Calls Tryd.prog 30 #[.agg (shaL h n (.slice A k c)).toArray, .slice At m ct] w fun e w' =>
      ∃ A' k' c', e = .returned (.agg (shaL (blocksTo h (rest ++ ts.flatten) ((rest ++ ts.flatten).length / 64)) (n + ts.flatten.length) (.slice A' k' c')).toArray) ∧
        w'.ownsRow w.heap.size 5 1 (.slice A' k' c') k' (((rest ++ ts.flatten).drop (64 * ((rest ++ ts.flatten).length / 64))).map bv) ∧ Below w.heap.size w w' := by
  have hrl : rest.length = k := by have := hr.len; simpa using this
  have hml : vs.length = m := hv.len
  have htl : ts.length = m := by rw [← ht.1, hml]
  have Hh := Lib.hid hh
  have Hrl := Lib.hid hrl
  have Hml := Lib.hid hml
  have Htl := Lib.hid htl
  have Hle := Lib.hid (flat_take_le ts)
  have Htot := Lib.hid htot
  clear hh hrl hml htl htot
  go_enter Tryd.func30, Tryd.ntmps30
  go_wp2_with fail
  refine wp_gen (fun w1 => ShaAt w1 w.heap.size h n (.slice A k c) ∧ ArrB w1 (w.heap.size + 1 + 1) 73 (List.replicate 64 0) ∧ (∃ cs : Array Value, cs.size = 10 ∧ w1.heap[w.heap.size + 1]? = some (.cells cs 59 (0, 0))) ∧ Below w.heap.size w w1) ?_ ?_
  · refine ⟨ShaAt.alloc (ShaAt.alloc ⟨Hh.out, heap_alloc_new _ _⟩ _) _, ArrB.mk_ _ _ _ _ (by simp) rfl, ⟨_, ?_, (heap_alloc_old _ _ (by simp)).trans (heap_new (by simp) _)⟩, (((Below.refl _ _).alloc (Nat.le_refl _) _).alloc (al0 _ _) _).alloc (Nat.le_trans (al0 _ _) (al0 _ _)) _⟩
    rfl
  rintro w1 ⟨hS1, hB1, ⟨cs1, hc1, hR1⟩, hb1⟩
  have cV1 := hS1.cellV
  go_still_tail 3, (by kernel_rfl)
  change wpList _ _ _ _ _ w1.drew
  obtain ⟨cs, hcs⟩ : ∃ cs, cs = rest.map bv := ⟨_, rfl⟩
  have hcl : cs.length = k := by rw [hcs, List.length_map, Hrl.out]
  have Hcs := Lib.hid hcs
  have Hcl := Lib.hid hcl
  have H1 := Lib.hid (show ∀ v ∈ cs, v.oneCell' = true by rw [hcs]; exact one_bv _)
  have Hr1 := Lib.hid (show Rd w1.drew w.heap.size A k cs by rw [hcs]; exact (hr.below hb1).drew)
  clear hcs
  go_wp2_with ((with_reducible show wpList _ _ _ (⟨some 13, _, _, _, _, _⟩ :: _) _ _); refine wpList_copy_row rfl (.tmp 10) (.tmp 12) _ _ rfl 5 Tryd.underlying45 byteSize _ _ _ _ _ _ rfl rfl (w.heap.size + 1 + 1) 0 ((List.replicate 64 0).map bv) 73 hB1.drew.at_ cs (by rw [Hcl.out]; exact (Nat.min_eq_left (by omega)).symm) (fun hp => ⟨rfl, Hr1.out.src hp⟩) (by rw [Hcl.out]; simp; omega) H1.out ?_)
  clear hcl
  obtain ⟨all, hall⟩ : ∃ all, all = rest ++ ts.flatten := ⟨_, rfl⟩
  have Hal := Lib.hid (show all.length = k + ts.flatten.length by rw [hall, List.length_append, Hrl.out])
  have Hall := Lib.hid hall
  clear hall
  have hstart : TkInv w (w1.drew.setRow (w.heap.size + 1 + 1) (splice ((List.replicate 64 0).map bv) 0 cs).toArray) w.heap.size (w.heap.size + 1 + 1) (w.heap.size + 1) h all n (.slice A k c) k := by
    have e0 : k / 64 = 0 := by omega
    have e1 : k % 64 = k := by omega
    have e2 : splice ((List.replicate 64 (0 : UInt8)).map bv) 0 cs = (splice (List.replicate 64 0) 0 rest).map bv := by rw [Hcs.out, splice_bytes]
    refine ⟨by rw [e0]; exact hS1.drew.rowFar (by omega) _, ⟨splice (List.replicate 64 0) 0 rest, splice_len64 (by simp) (by rw [Hrl.out]; omega), ?_, by rw [e2]; exact hB1.drew.row _⟩, ⟨cs1, hc1, (setRow_other _ _ _ _ (by omega)).trans hR1⟩, below_setRow hb1.drew (by omega) _⟩
    rw [e0, e1, Hall.out]
    simp [splice, Hrl.out]
  refine wp_gen (fun wx => TkInv w wx w.heap.size (w.heap.size + 1 + 1) (w.heap.size + 1) h all n (.slice A k c) k) hstart ?_
  clear hstart hS1 hB1 hR1 hb1 cV1 Hr1
  intro w2 hI2
  go_wp2_with fail
  go_loopw [6, 16] (fun fv i wr => ∃ q f : Nat, q ≤ m ∧ i = .int .i64 (q : Int) ∧ fv = .int .i64 (f : Int) ∧ Hid (f = (k + (ts.take q).flatten.length) % 64) ∧ TkInv w wr w.heap.size (w.heap.size + 1 + 1) (w.heap.size + 1) h all (n + (ts.take q).flatten.length) (.slice A k c) (k + (ts.take q).flatten.length)) (fun _ i _ => m - (intOf i).toNat)
  case atStart => exact ⟨0, k, by omega, rfl, rfl, by show k = _; simp; omega, by simpa using hI2⟩
  case round =>
    obtain ⟨q, f, hq, rfl, rfl, Hf, hI⟩ := hrel
    obtain ⟨wo, rfl⟩ : ∃ wo, wo = wr := ⟨_, rfl⟩
    by_cases hlt : q < m
    · obtain ⟨v, hvq⟩ : ∃ v, vs[q]? = some v := ⟨_, List.getElem?_eq_getElem (by have := Hml.out; omega)⟩
      obtain ⟨t, htq⟩ : ∃ t, ts[q]? = some t := ⟨_, List.getElem?_eq_getElem (by have := Htl.out; omega)⟩
      obtain ⟨b, o, rfl, hb, hc⟩ := (hv.below hI.bel).pos (by omega)
      obtain ⟨Ax, cx, rfl, hcx, hrx⟩ := ht.2 q v t hvq htq
      have hcell := hc q _ hvq
      have cN := hI.sha.cellN
      have fN := hI.sha.frozen 8
      have Hsn := Lib.hid (flat_take_succ htq)
      have hle1 : (ts.take q).flatten.length + t.length ≤ ts.flatten.length := by
        have h2 := Hle.out (q + 1)
        rw [flat_take_succ htq, List.length_append] at h2
        exact h2
      have htt := Htot.out
      have Hat := Lib.hid (fun (j r : Nat) (hj : j + r ≤ t.length) => (all_at (rest := rest) htq hj))
      generalize hfl : (ts.take q).flatten.length = fl at *
      have Hfl := Lib.hid hfl
      have n1 : n + fl ≤ 5497558138880 := by omega
      have n2 : t.length ≤ 1099511627776 := by omega
      have Hle1 := Lib.hid hle1
      clear hvq htq hc htt hfl hle1
      generalize hN0 : n + fl = N0 at *
      have HN0 := Lib.hid hN0
      generalize hs0 : k + fl = s0 at *
      have Hs0 := Lib.hid hs0
      clear hN0 hs0
      generalize htlen : t.length = tl at *
      have Htlen := Lib.hid htlen
      clear htlen
      go_wp2_with fail
      have Hat2 := Lib.hid (show ∀ j r : Nat, j + r ≤ tl → (all.drop (s0 + j)).take r = (t.drop j).take r by
        intro j r hj
        rw [Hall.out, ← Hs0.out, ← Hrl.out]
        exact Hat.out j r hj)
      have hsl : s0 + tl ≤ all.length := by rw [Hal.out, ← Hs0.out]; have := Hle1.out; omega
      have Hsl := Lib.hid hsl
      clear hsl
      refine wp_gen (fun wx => TkInv w wx w.heap.size (w.heap.size + 1 + 1) (w.heap.size + 1) h all (N0 + tl) (.slice A k c) s0) (hI.setN _ _ (by omega) (by omega) (by omega) (by omega)) ?_
      clear hI Hat cN fN hcell
      intro w3 hI3
      go_loopw [6, 8] (fun fv p wr => ∃ (j f : Nat) (A' : Option Addr) (c' : Nat), j ≤ tl ∧ p = .slice A' (tl - j) c' ∧ tl - j ≤ c' ∧ Rd w w.heap.size A' (tl - j) ((t.drop j).map bv) ∧ fv = .int .i64 (f : Int) ∧ Hid (f = (s0 + j) % 64) ∧ TkInv w wr w.heap.size (w.heap.size + 1 + 1) (w.heap.size + 1) h all (N0 + tl) (.slice A k c) (s0 + j)) (fun _ p _ => lenOf p)
      case atStart => exact ⟨0, f, Ax, cx, by omega, rfl, hcx, hrx, rfl, Hf, hI3⟩
      case round =>
        obtain ⟨j, f2, A', c', hj, rfl, hcj, hrj, rfl, Hf2, hI4⟩ := hrel
        obtain ⟨L, hL1, hL2, hL3⟩ := hI4.blk
        by_cases hlj : j < tl
        · have hf2 : f2 < 64 := by rw [Hf2.out]; exact Nat.mod_lt _ (by omega)
          have Hat3 := Lib.hid (Hat2.out j (Nat.min (tl - j) (64 - f2)) (by have h : Nat.min (tl - j) (64 - f2) ≤ tl - j := Nat.min_le_left _ _; omega))
          have hr1 : Nat.min (tl - j) (64 - f2) ≤ tl - j := Nat.min_le_left _ _
          have hr2 : f2 + Nat.min (tl - j) (64 - f2) ≤ 64 := by have h : Nat.min (tl - j) (64 - f2) ≤ 64 - f2 := Nat.min_le_right _ _; omega
          have hr3 : 1 ≤ Nat.min (tl - j) (64 - f2) := Nat.le_min.2 ⟨by omega, by omega⟩
          obtain ⟨r, hr⟩ : ∃ r, Nat.min (tl - j) (64 - f2) = r := ⟨_, rfl⟩
          rw [hr] at Hat3 hr1 hr2 hr3
          have Hr := Lib.hid hr
          clear hr
          obtain ⟨cs3, hcs3⟩ : ∃ cs3, cs3 = ((t.drop j).take r).map bv := ⟨_, rfl⟩
          have hcl3 : cs3.length = r := by rw [hcs3, List.length_map, List.length_take, List.length_drop, Htlen.out]; omega
          have Hcl3 := Lib.hid hcl3
          have H3 := Lib.hid (show ∀ v ∈ cs3, v.oneCell' = true by rw [hcs3]; exact one_bv _)
          have Hcs3 := Lib.hid hcs3
          have Hr3 := Lib.hid (show ∀ wx : World, Below w.heap.size w wx → Rd wx w.heap.size A' r cs3 by
            intro wx hb
            have := (hrj.below hb).take hr1
            rwa [← List.map_take, ← hcs3] at this)
          clear hcs3
          have i0 : (0 : Int) < ((tl - j : Nat) : Int) := by omega
          have i1 : (f2 : Int) ≤ 64 := by omega
          have i2 : ¬ 64 = f2 := by omega
          have i3 : (r : Int) ≤ ((tl - j : Nat) : Int) := by omega
          have i4 : IntKind.i64.wrap ((f2 : Int) + (r : Int)) = (f2 : Int) + (r : Int) := IntWalk.i64_in _ (by omega)
          generalize htj : tl - j = tj at *
          have Htj := Lib.hid htj
          clear htj
          have Hspl := Lib.hid (show splice (L.map bv) f2 cs3 = (splice L ((s0 + j) % 64) ((all.drop (s0 + j)).take r)).map bv by
            rw [Hcs3.out, splice_bytes, Hat3.out, Hf2.out])
          have hsum : s0 + j + r ≤ all.length := by have := Hsl.out; have := Htj.out; omega
          have hf3 := Hf2.out
          have Hcut := Lib.hid (show Rd w w.heap.size (if c' = r then A' else A'.map (·.add r)) (tl - (j + r)) ((t.drop (j + r)).map bv) by
            have h := hrj.cut hr1 hcj
            rw [← List.map_drop, List.drop_drop] at h
            rw [show tl - (j + r) = tj - r by have := Htj.out; omega]
            exact h)
          have Hjr := Lib.hid (show j + r ≤ tl ∧ tl - (j + r) = tj - r ∧ tj - r ≤ c' - r ∧ (f2 + r) % 64 = (s0 + (j + r)) % 64 ∧ tj - r < tj by have := Htj.out; omega)
          by_cases hfull : f2 + r = 64
          · have Hch := Lib.hid (chunk_full hL1 hL2 (by omega) hsum)
            have Hq := Lib.hid (show (s0 + j + r) / 64 = (s0 + j) / 64 + 1 ∧ (s0 + j + r) % 64 = 0 by omega)
            have hS4 := hI4.sha
            obtain ⟨cs4, hc4, hR4⟩ := hI4.res
            have hbel4 := hI4.bel
            clear hf3 hsum
            have j1 : ((f2 : Int) + (r : Int) == 64) = true := by simp; omega
            by_cases hcr : c' = r
            all_goals
              go_wp2_with ((with_reducible show wpList _ _ _ (⟨some 33, _, _, _, _, _⟩ :: _) _ _); refine wpList_copy_row rfl (.tmp 31) (.tmp 32) _ _ rfl 5 Tryd.underlying45 byteSize _ _ _ _ _ _ rfl rfl (w.heap.size + 1 + 1) f2 (L.map bv) 73 hL3.at_ cs3 (by rw [Hcl3.out]; exact Hr.out.symm) (fun hp => ⟨rfl, (Hr3.out _ hI4.bel).src hp⟩) (by rw [Hcl3.out]; simp [hL1]; omega) H3.out ?_)
              refine wp_gen (fun wx => ShaAt wx w.heap.size (blocksTo h all ((s0 + j) / 64)) (N0 + tl) (.slice A k c) ∧ ArrB wx (w.heap.size + 1 + 1) 73 (chunk all ((s0 + j) / 64)) ∧ wx.heap[w.heap.size + 1]? = some (.cells cs4 59 (0, 0)) ∧ Below w.heap.size w wx) ⟨hS4.rowFar (by omega) _, by rw [Hspl.out, Hch.out]; exact hL3.row _, (setRow_other _ _ _ _ (by omega)).trans hR4, below_setRow hbel4 (by omega) _⟩ ?_
              clear hI4 hL3 hL2 hS4 hR4 hbel4
              rintro w4 ⟨hS5, hL5, hR5, hb5⟩
              have hlen5 := hS5.1
              have hcl5 : (chunk all ((s0 + j) / 64)).length = 64 := by rw [← Hch.out]; exact splice_len64 hL1 (by simp; have := Hf2.out; omega)
              have Hbk := Lib.hid (show blocksTo h all ((s0 + j) / 64 + 1) = blockW (blocksTo h all ((s0 + j) / 64)) (wordsU (chunk all ((s0 + j) / 64))) from rfl)
              generalize blocksTo h all ((s0 + j) / 64) = hcur at *
              generalize chunk all ((s0 + j) / 64) = ck at *
              have Hi8 := Lib.hid (show (Tryd.prog.info? 57).map (·.size) = some (hcur.map wv).length by rw [info8]; simp [hlen5])
              have Hi64 := Lib.hid (show (Tryd.prog.info? 73).map (·.size) = some ((ck.map bv).toArray).size by rw [info64b]; simp [hcl5])
              have Hln5 := Lib.hid hlen5
              have Hck5 := Lib.hid hcl5
              clear hlen5 hcl5
              have hCT := hT.below hb5
              go_quiet (fail)
              generalize hwq : w4.drewN nq = w5
              have hS6 : ShaAt w5 w.heap.size hcur (N0 + tl) (.slice A k c) := by rw [← hwq]; exact hS5.drewN nq
              have hL6 : ArrB w5 (w.heap.size + 1 + 1) 73 ck := by rw [← hwq]; exact hL5.drewN nq
              have hR6 : w5.heap[w.heap.size + 1]? = some (.cells cs4 59 (0, 0)) := by rw [← hwq]; exact hR5
              have hb6 : Below w.heap.size w w5 := by rw [← hwq]; exact hb5.trans ⟨rfl, rfl, rfl, Nat.le_refl _, fun _ _ => rfl⟩
              have hC6 : CTab w5 := by rw [← hwq]; exact hCT
              clear hwq hS5 hL5 hR5 hb5 hCT
              go_wp2_with (first
                | ((with_reducible show wpList _ _ _ (⟨some 43, _, _, _, _, _⟩ :: _) _ _); refine wpList_load_mid rfl 57 (.tmp 42) rfl w.heap.size 0 rfl (hcur.map wv) _ hS6.words Tryd.underlying57 rfl Hi8.out ?_)
                | ((with_reducible show wpList _ _ _ (⟨some 44, _, _, _, _, _⟩ :: _) _ _); refine wpList_load_row rfl 73 (.tmp 5) rfl (w.heap.size + 1 + 1) rfl 73 (ck.map bv).toArray (0, 0) _ hL6 Tryd.underlying73 rfl Hi64.out ?_))
              refine (mixed_any hcur ck w5 Hln5.out Hck5.out hC6).mono ?_
              rintro e w6 ⟨rfl, hb7⟩
              rw [← Hbk.out]
              have hS7 := hS6.below hb7 hS6.lt
              have hL7 := hL6.below hb7 hL6.lt
              have hR7 : w6.heap[w.heap.size + 1]? = some (.cells cs4 59 (0, 0)) := (hb7.block _ (by have := hL6.lt; omega)).trans hR6
              have hb8 : Below w.heap.size w w6 := hb6.trans (hb7.mono hb6.size)
              have hln7 : (blocksTo h all ((s0 + j) / 64 + 1)).length = 8 := blocksTo_len Hh.out _ _
              generalize hgn : blocksTo h all ((s0 + j) / 64 + 1) = hnew at *
              have Hgn := Lib.hid hgn
              have Hln7 := Lib.hid hln7
              have Hi7 := Lib.hid (show (Tryd.prog.info? 57).map (·.size) = some ((hnew.map wv).toArray).size by rw [info8]; simp [hln7])
              have Ht7 := Lib.hid (show w6.there w.heap.size 0 ((hnew.map wv).toArray).size by simp [hln7]; exact hS7.there)
              clear hgn hln7
              go_wp2_with ((with_reducible show wpList _ _ _ (⟨none, Op.store 57 _ _, _, _, _, _⟩ :: _) _ _); refine wpList_store_mid rfl 57 (.tmp 46) (.tmp 45) rfl w.heap.size 0 (hnew.map wv).toArray rfl rfl Ht7.out Hi7.out (one_wv _) ?_)
              obtain ⟨g1, g2, g3, g4, g5⟩ := Hjr.out
              obtain ⟨q1, q2⟩ := Hq.out
              have hcut := Hcut.out
              first | rw [if_pos hcr] at hcut | rw [if_neg hcr] at hcut
              have hI8 : TkInv w (w6.setCells w.heap.size 0 (hnew.map wv)) w.heap.size (w.heap.size + 1 + 1) (w.heap.size + 1) h all (N0 + tl) (.slice A k c) (s0 + (j + r)) := by
                rw [← Nat.add_assoc]
                refine ⟨by rw [q1, Hgn.out]; exact hS7.setH Hln7.out, ⟨ck, Hck5.out, by rw [q2]; rfl, ?_⟩, ⟨cs4, hc4, (setCells_far _ _ (by omega) _ _ _).trans hR7⟩, below_setCells (Nat.le_refl _) _ _ _ hb8⟩
                exact hL7.of (setCells_far _ _ (by omega) _ _ _)
              exact ⟨⟨j + r, 0, _, _, g1, by rw [g2], by rw [g2]; omega, hcut, rfl, by show 0 = _; omega, by simpa using hI8⟩, by simp [lenOf]; omega⟩
          · have Hwi := Lib.hid (fun wx hw => TkInv.within (wr' := wx) hI4 hL1 hL2 (r := r) (by omega) hsum hw hL3 (by omega) (by omega) (by omega))
            clear hf3 hsum
            have j1 : ((f2 : Int) + (r : Int) == 64) = false := by simp; omega
            by_cases hcr : c' = r
            all_goals
              go_wp2_with ((with_reducible show wpList _ _ _ (⟨some 33, _, _, _, _, _⟩ :: _) _ _); refine wpList_copy_row rfl (.tmp 31) (.tmp 32) _ _ rfl 5 Tryd.underlying45 byteSize _ _ _ _ _ _ rfl rfl (w.heap.size + 1 + 1) f2 (L.map bv) 73 hL3.at_ cs3 (by rw [Hcl3.out]; exact Hr.out.symm) (fun hp => ⟨rfl, (Hr3.out _ hI4.bel).src hp⟩) (by rw [Hcl3.out]; simp [hL1]; omega) H3.out ?_)
              refine wp_gen (fun wx => TkInv w wx w.heap.size (w.heap.size + 1 + 1) (w.heap.size + 1) h all (N0 + tl) (.slice A k c) (s0 + j + r)) (Hwi.out _ (by rw [Hspl.out])) ?_
              clear hI4 hL3 hL2
              intro w4 hI5
              go_quiet (fail)
              go_wp2_with fail
              obtain ⟨g1, g2, g3, g4, g5⟩ := Hjr.out
              have hcut := Hcut.out
              first | rw [if_pos hcr] at hcut | rw [if_neg hcr] at hcut
              exact ⟨⟨j + r, f2 + r, _, _, g1, by rw [g2], by rw [g2]; omega, hcut, by rw [Int.natCast_add], by show f2 + r = _; rw [← g4]; omega, by rw [← Nat.add_assoc]; exact hI5.drewN nq⟩, by simp [lenOf]; omega⟩
        · obtain rfl : j = tl := by omega
          go_wp2_with fail
          have hfl1 : (ts.take (q + 1)).flatten.length = fl + j := by rw [Hsn.out, List.length_append, Hfl.out, Htlen.out]
          have hs1 : k + (ts.take (q + 1)).flatten.length = s0 + j := by rw [hfl1, ← Hs0.out]; omega
          have hN1 : n + (ts.take (q + 1)).flatten.length = N0 + j := by rw [hfl1, ← HN0.out]; omega
          exact ⟨⟨q + 1, f2, by omega, by go_num, rfl, by show f2 = _; rw [hs1]; exact Hf2.out, by rw [hs1, hN1]; exact hI4⟩, by simp [intOf]; omega⟩
    · obtain rfl : q = m := by omega
      have e : ts.take q = ts := List.take_of_length_le (by have := Htl.out; omega)
      rw [e, ← Hal.out] at hI Hf
      obtain ⟨L, hL1, hL2, hL3⟩ := hI.blk
      obtain ⟨cs9, hc9, hR9⟩ := hI.res
      have hS9 := hI.sha
      have hb9 := hI.bel
      have hf9 : f < 64 := by rw [Hf.out]; exact Nat.mod_lt _ (by omega)
      have i1 : (f : Int) ≤ 64 := by omega
      have i0 : 0 ≤ (f : Int) := by omega
      have hLl : (L.take f).length = f := by simp [hL1]; omega
      have hrL : ∀ wx : World, ArrB wx (w.heap.size + 1 + 1) 73 L → Rd wx wx.heap.size (some ⟨w.heap.size + 1 + 1, 0, none⟩) f ((L.take f).map bv) := by
        intro wx hx
        refine ⟨by simp [hL1]; omega, fun _ => ⟨_, 0, rfl, hx.lt, fun j u hu => ?_⟩⟩
        rw [Nat.zero_add, cell_of_row wx _ j _ _ (0, 0) hx.at_]
        rw [List.map_take, List.getElem?_take] at hu
        split at hu
        · simpa using hu
        · cases hu
      have HrL := Lib.hid hrL
      have Hl2 := Lib.hid (show L.take f = all.drop (64 * (all.length / 64)) by
        rw [Hf.out, hL2]
        exact List.take_of_length_le (by simp; omega))
      clear hrL hL2 hI hLl e
      go_wp2_with fail
      refine (Clone_any _ f _ (L.take f) _ (by omega) (HrL.out _ hL3)).mono ?_
      rintro e w7 ⟨A7, c7, rfl, hown7, hb7⟩
      have hS7 := hS9.below hb7 hS9.lt
      have hR7 : w7.heap[w.heap.size + 1]? = some (.cells cs9 59 (0, 0)) := (hb7.block _ (by have := hL3.lt; omega)).trans hR9
      have hb8 : Below w.heap.size w w7 := hb9.trans (hb7.mono hb9.size)
      have cV7 := hS7.cellV
      have fV7 := hS7.frozen 9
      have hS8 := hS7.setV (.slice A7 f c7)
      have hR8 : (w7.setCell ⟨w.heap.size, 9, none⟩ (.slice A7 f c7)).heap[w.heap.size + 1]? = some (.cells cs9 59 (0, 0)) := (Below.heap_setCell _ _ _ _ (by simp)).trans hR7
      have hb10 : Below w.heap.size w (w7.setCell ⟨w.heap.size, 9, none⟩ (.slice A7 f c7)) := hb8.setCell (Nat.le_refl _) _
      have hown8 : (w7.setCell ⟨w.heap.size, 9, none⟩ (.slice A7 f c7)).ownsRow w.heap.size 5 1 (.slice A7 f c7) f ((L.take f).map bv) := by
        refine own_far (own_base hown7 hb9.size) (by simp) (fun g hg => Below.heap_setCell _ _ _ _ ?_)
        have := (hown7.lt g hg).1
        have := hL3.lt
        simp
        omega
      have hown9 : ((w7.setCell ⟨w.heap.size, 9, none⟩ (.slice A7 f c7)).setRow (w.heap.size + 1) (shaL (blocksTo h all (all.length / 64)) (n + ts.flatten.length) (.slice A7 f c7)).toArray).ownsRow w.heap.size 5 1 (.slice A7 f c7) f ((L.take f).map bv) := by
        refine own_far hown8 (by simp [World.setRow]) (fun g hg => setRow_other _ _ _ _ ?_)
        have := (hown7.lt g hg).1
        have := hL3.lt
        omega
      generalize hgb : blocksTo h all (all.length / 64) = hfin at *
      have Hgb := Lib.hid hgb
      generalize hgN : n + ts.flatten.length = Nf at *
      have HgN := Lib.hid hgN
      have hl10 := shaL_len hS8.1 Nf (.slice A7 f c7)
      have Hi10 := Lib.hid (show (Tryd.prog.info? 59).map (·.size) = some ((shaL hfin Nf (.slice A7 f c7)).toArray).size by rw [infoSha]; simp [hl10])
      have Hz10 := Lib.hid (show cs9.size = ((shaL hfin Nf (.slice A7 f c7)).toArray).size by simp [hl10, hc9])
      have H1s := Lib.hid (one_sha hfin Nf A7 f c7)
      clear hgb hgN hl10 hc9
      go_wp2_with (first
        | ((with_reducible show wpList _ _ _ (⟨some 52, _, _, _, _, _⟩ :: _) _ _); refine wpList_load_row rfl 59 (.tmp 2) rfl w.heap.size rfl 59 (shaL hfin Nf (.slice A7 f c7)).toArray (0, 0) _ hS8.2 Tryd.underlying59 rfl Hi10.out ?_)
        | ((with_reducible show wpList _ _ _ (⟨none, Op.store 59 _ _, _, _, _, _⟩ :: _) _ _); refine wpList_store_row rfl 59 (.tmp 4) (.tmp 52) rfl (w.heap.size + 1) (shaL hfin Nf (.slice A7 f c7)).toArray rfl rfl 59 _ hR8 Hi10.out Hz10.out H1s.out ?_))
      refine bodyPost_ret (results_cell_row rfl _ _ (w.heap.size + 1) 59 _ (0, 0) _ rfl (setRow_heap _ _ _ _ _ _ hR8) Tryd.underlying59 rfl Hi10.out) rfl ⟨A7, f, c7, ?_, ?_, below_setRow hb10 (by omega) _⟩
      · rw [← Hall.out, Hgb.out, HgN.out]
      · rw [← Hall.out, ← Hl2.out]
        exact hown9

end Go.Proofs.YtgjeamapgdakcaaDoor

