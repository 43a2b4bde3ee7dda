import Derived.Test.YtlidhdljgnijaaaDoorN02
import Derived.Test.YtlidhdljgnijaaaDoorN08
import Derived.Test.YtlidhdljgnijaaaDoorN17
/-
  CONTRACTS of wire's grown and putNum.
-/
set_option linter.unusedVariables false
namespace Go.Proofs.YtlidhdljgnijaaaDoor
open Go.RowKit

theorem grown_any (A : Option Addr) (k c : Nat) (d : Int) (l : List UInt8) (w : World) (hk : k ≤ 1099511627776) (hd : 0 ≤ d) (hm : d ≤ 1099511627776) (hr : Rd w w.heap.size A k (l.map bv)) :
    Calls Tryd.prog 71 #[.slice A k c, .int .i64 d] w fun e w' =>
      ∃ A' c', e = .returned (.slice A' k c') ∧ w'.ownsRow w.heap.size 5 1 (.slice A' k c') k (l.map bv) ∧ Below w.heap.size w w' := by
  obtain ⟨m, rfl⟩ := Int.eq_ofNat_of_zero_le hd
  obtain ⟨i0, hi0, hz0, hz1, hz2⟩ := info_parts byteInfo
  go_enter Tryd.func71, Tryd.ntmps71
  go_wp2_with (first
    | (at_make; refine wpList_make_own _ rfl _ _ 41 rfl w.heap.size 5 i0 (.int .u8 0) 1 Tryd.underlying41 hi0 hz0 hz1 _ _ _ (k + m) rfl rfl (by simp) (by rw [hz2]; omega) (by simp only [maxLen]; omega) (Nat.le_refl _) ?_; intro w1 hown1 hgr1)
    | (at_builtin; refine wpList_append_rd _ rfl (.tmp 9) (.tmp 10) _ rfl w.heap.size 5 i0 _ 1 Tryd.underlying41 hi0 hz0 hz1 hz2 rfl _ 0 [] rfl hown1 w.heap.size A k c (l.map bv) rfl (hr.grown hgr1 (Nat.le_refl _) (by simp)) (one_bv l) (by simp only [maxLen]; omega) (by omega) hgr1.size ?_; intro v2 w2 hown2 hgr2 hat2))
  go_ret
  obtain ⟨A', c', rfl, _, _⟩ := own_form hown2
  rw [Nat.zero_add] at hown2 ⊢
  refine ⟨A', c', rfl, hown2, ?_⟩
  exact ((Below.refl _ _).grown hgr1 (Nat.le_refl _) (by simp)).grown hgr2 hgr1.size (fun g hg => (hown1.lt g hg).1)

set_option maxHeartbeats 400000 in
theorem putNum_any (base : Nat) (v : Value) (k : Nat) (l : List UInt8) (width n : Nat) (w : World) (hw : width ≤ 8) (hn : n < 18446744073709551616) (hk : k ≤ 1099511627776)
    (hown : w.ownsRow base 5 1 v k (l.map bv)) (hb : base ≤ w.heap.size) :
    Calls Tryd.prog 72 #[v, .int .i64 (width : Int), .int .u64 (n : Int)] w fun e w' =>
      ∃ v, e = .returned v ∧ w'.ownsRow base 5 1 v (k + width) ((l ++ be width n).map bv) ∧ Below base w w' := by
  obtain ⟨i0, hi0, hz0, hz1, hz2⟩ := info_parts byteInfo
  go_enter Tryd.func72, Tryd.ntmps72
  go_wp2
  go_loopw [0, 7] (fun v i wr => ∃ j m : Nat, j + m = width ∧ i = .int .i64 ((m : Int) - 1) ∧ wr.ownsRow base 5 1 v (k + j) ((l ++ be j (n / 256 ^ m)).map bv) ∧ Below base w wr) (fun _ i _ => (intOf i + 1).toNat)
  case atStart => exact ⟨0, width, by omega, rfl, by simpa [be] using hown, Below.refl _ _⟩
  case round =>
    obtain ⟨j, m, hjm, rfl, hown1, hbel⟩ := hrel
    have hsz := hbel.size
    rcases m with _ | m
    · obtain rfl : j = width := by omega
      go_wp2
      go_ret
      exact ⟨u0, rfl, by simpa using hown1, hbel⟩
    · rw [show (((m + 1 : Nat) : Int) - 1) = (m : Int) from by omega]
      go_wp2_with (at_builtin; refine wpList_append_rd _ rfl (.tmp 14) (.tmp 20) _ rfl base 5 i0 _ 1 Tryd.underlying41 hi0 hz0 hz1 hz2 rfl u0 (k + j) _ rfl (hown1.alloc _) (wr.heap.size + 1) _ 1 1 [.int .u8 (↑n / 2 ^ (8 * m) % 256)] rfl (Rd.new _ _ #[_]) (by simp [Value.oneCell']) (by simp only [maxLen]; omega) (by omega) (by simp; omega) ?_; intro v1 w1 hown2 hgr hat)
      go_roundw
      case rel =>
        refine ⟨j + 1, m, by omega, rfl, ?_, ?_⟩
        · rw [be_step, ← List.append_assoc, List.map_append, List.map_cons, List.map_nil, bv_def, ← byteAt]
          exact hown2
        · exact (hbel.alloc (by omega) _).grown hgr (by simp; omega) (fun g hg => (hown1.lt g hg).1)
      case measure => simp [intOf]

end Go.Proofs.YtlidhdljgnijaaaDoor

/-
  CONTRACTS of wire.Text and the document's own Text.
-/
set_option linter.unusedVariables false
namespace Go.Proofs.YtlidhdljgnijaaaDoor
open Go.RowKit

def TextPost (w : World) (l : List UInt8) (ts : List (List UInt8)) (e : Ending) (w' : World) : Prop :=
  Below w.heap.size w w' ∧ ((GoodT ts ∧ ∃ A n c, e = .returned (.tuple #[.slice A n c, .int .i64 0]) ∧ w'.ownsRow w.heap.size 5 1 (.slice A n c) n ((l ++ txs ts).map bv)) ∨
    (¬ GoodT ts ∧ e = .returned (.tuple #[.slice none 0 0, .int .i64 4])))

theorem TextPost.yes {w w' : World} {l : List UInt8} {ts : List (List UInt8)} {e : Ending} (h : TextPost w l ts e w') (h0 : GoodT ts) :
    ∃ A n c, e = .returned (.tuple #[.slice A n c, .int .i64 0]) ∧ w'.ownsRow w.heap.size 5 1 (.slice A n c) n ((l ++ txs ts).map bv) ∧ n ≤ c ∧ Hid (n = (l ++ txs ts).length) ∧ Below w.heap.size w w' := by
  obtain ⟨hb, ⟨_, A, n, c, he, ho⟩ | ⟨h1, _⟩⟩ := h
  · obtain ⟨A', c', e', hc, hl⟩ := own_form ho
    injection e' with _ _ e3
    subst e3
    exact ⟨A, n, c, he, ho, hc, Lib.hid (by simpa using hl.symm), hb⟩
  · exact absurd h0 h1

set_option maxRecDepth 1000000 in
set_option maxHeartbeats 1000000 in
theorem Text_any (A : Option Addr) (k c : Nat) (l : List UInt8) (At : Option Addr) (m ct : Nat) (vs : List Value) (ts : List (List UInt8)) (w : World) (hk : k ≤ 1073741824) (hm : m ≤ 1048576)
    (hr : Rd w w.heap.size A k (l.map bv)) (hv : Rd w w.heap.size At m vs) (ht : Txs w w.heap.size vs ts) :
    Calls Tryd.prog 60 #[.slice A k c, .slice At m ct] w (TextPost w l ts) := by
  obtain ⟨i0, hi0, hz0, hz1, hz2⟩ := info_parts byteInfo
  have hml : vs.length = m := hv.len
  have htl : ts.length = m := by rw [← ht.1, hml]
  have Hml := Lib.hid hml
  have Htl := Lib.hid htl
  have hkl : l.length = k := by have := hr.len; simpa using this
  have Hkl := Lib.hid hkl
  clear hml htl hkl
  go_enter Tryd.func60, Tryd.ntmps60
  go_wp2_with fail
  go_loop [6, 14] (fun x i => ∃ j : Nat, j ≤ m ∧ i = .int .i64 (j : Int) ∧ x = .int .i64 ((txs (ts.take j)).length : Int) ∧ AllShort ts j) (fun _ i => m - (intOf i).toNat)
  case atStart => exact ⟨0, by omega, rfl, by simp [txs], AllShort.zero ts⟩
  case round =>
    obtain ⟨j, hj, rfl, rfl, hall⟩ := hrel
    have hlen := hall.take
    by_cases hlt : j < m
    · obtain ⟨b, o, rfl, hb, hc⟩ := hv.pos (by omega)
      obtain ⟨v, hvj⟩ : ∃ v, vs[j]? = some v := ⟨_, List.getElem?_eq_getElem (by have := Hml.out; omega)⟩
      obtain ⟨t, htj⟩ : ∃ t, ts[j]? = some t := ⟨_, List.getElem?_eq_getElem (by have := Htl.out; omega)⟩
      obtain ⟨Ax, cx, rfl, hcx, hrx⟩ := ht.2 j v t hvj htj
      have hcell := hc j _ hvj
      have Hsn := Lib.hid (show (txs (ts.take (j + 1))).length = (txs (ts.take j)).length + (2 + t.length) by rw [take_succ_of htj, txs_snoc]; simp [be_length])
      have Htj := Lib.hid htj
      clear hvj htj hc
      generalize hg : (txs (ts.take j)).length = y at *
      clear hg
      by_cases hs : t.length ≤ 65535
      · go_wp2_with fail
        go_round
        case rel => exact ⟨j + 1, by omega, by go_num, by rw [Hsn.out]; rfl, hall.snoc Htj.out hs⟩
        case measure => simp [intOf]; omega
      · go_wp2_with fail
        go_ret2
        exact ⟨Below.refl _ _, .inr ⟨fun h => hs (h j t Htj.out), rfl⟩⟩
    · obtain rfl : j = m := by omega
      go_wp2_with (go_at_call 71; refine (grown_any _ _ _ _ l _ (by omega) (by omega) (by omega) hr).mono ?_; rintro e w1 ⟨A1, c1, rfl, hown1, hbel1⟩)
      clear hlen
      have hgood : GoodT ts := hall.all Htl.out
      go_loopw [9, 32] (fun v i wr => ∃ q n : Nat, q ≤ j ∧ i = .int .i64 (q : Int) ∧ wr.ownsRow w.heap.size 5 1 v n ((l ++ txs (ts.take q)).map bv) ∧ Below w.heap.size w wr) (fun _ i _ => j - (intOf i).toNat)
      case atStart => exact ⟨0, k, by omega, rfl, by simpa [txs] using hown1, hbel1⟩
      case round =>
        obtain ⟨q, n, hq, rfl, hown2, hbel2⟩ := hrel
        have hsz := hbel2.size
        have hn : n ≤ 1073741824 + 65537 * j := by
          have h1 := hown2.1
          have h2 := (show AllShort ts q from fun i t hi ht => hgood i t ht).take
          have := Hkl.out
          simp only [List.length_map, List.length_append] at h1
          omega
        by_cases hlt : q < j
        · obtain ⟨b, o, rfl, hb, hc⟩ := (hv.below hbel2).pos (by omega)
          obtain ⟨v, hvj⟩ : ∃ v, vs[q]? = some v := ⟨_, List.getElem?_eq_getElem (by have := Hml.out; omega)⟩
          obtain ⟨t, htj⟩ : ∃ t, ts[q]? = some t := ⟨_, List.getElem?_eq_getElem (by have := Htl.out; omega)⟩
          obtain ⟨Ax, cx, rfl, hcx, hrx⟩ := (ht.below hbel2).2 q v t hvj htj
          have hcell := hc q _ hvj
          have hs := hgood q t htj
          have Htj := Lib.hid htj
          clear hvj htj hc
          go_wp2_with (first
            | (go_at_call 72; refine (putNum_any w.heap.size _ n (l ++ txs (ts.take q)) 2 t.length _ (by omega) (by omega) (by omega) hown2 hsz).mono ?_; rintro e w3 ⟨v3, rfl, hown3, hbel3⟩)
            | (at_builtin; refine wpList_append_rd _ rfl (.tmp 41) (.tmp 42) _ rfl w.heap.size 5 i0 _ 1 Tryd.underlying41 hi0 hz0 hz1 hz2 rfl v3 (n + 2) _ rfl hown3 w.heap.size Ax t.length cx (t.map bv) rfl (hrx.below hbel3) (one_bv _) (by simp only [maxLen]; omega) (by omega) (Nat.le_trans hsz hbel3.size) ?_; intro v4 w4 hown4 hgr4 hat4))
          go_roundw
          case rel =>
            refine ⟨q + 1, n + 2 + t.length, by omega, by go_num, ?_, ?_⟩
            · rw [take_succ_of Htj.out, txs_snoc, ← List.append_assoc, ← List.append_assoc, List.map_append (l₂ := t)]
              exact hown4
            · exact (hbel2.trans hbel3).grown hgr4 (Nat.le_trans hsz hbel3.size) (fun g hg => (hown3.lt g hg).1)
          case measure => simp [intOf]; omega
        · obtain rfl : q = j := by omega
          go_wp2_with fail
          go_ret2
          obtain ⟨A', c', rfl, _, _⟩ := own_form hown2
          refine ⟨hbel2, .inl ⟨hgood, A', n, c', rfl, ?_⟩⟩
          have e : ts.take q = ts := List.take_of_length_le (by have := Htl.out; omega)
          rw [e] at hown2
          exact hown2

set_option maxRecDepth 1000000 in
set_option maxHeartbeats 1000000 in
theorem refText_any (A : Option Addr) (k c : Nat) (l : List UInt8) (At : Option Addr) (m ct : Nat) (vs : List Value) (ts : List (List UInt8)) (w : World) (hk : k ≤ 1073741824) (hm : m ≤ 1048576)
    (hr : Rd w w.heap.size A k (l.map bv)) (hv : Rd w w.heap.size At m vs) (ht : Txs w w.heap.size vs ts) :
    Calls Tryd.prog 29 #[.slice A k c, .slice At m ct] w (TextPost w l ts) := by
  obtain ⟨i0, hi0, hz0, hz1, hz2⟩ := info_parts byteInfo
  have hml : vs.length = m := hv.len
  have htl : ts.length = m := by rw [← ht.1, hml]
  have Hml := Lib.hid hml
  have Htl := Lib.hid htl
  have hkl : l.length = k := by have := hr.len; simpa using this
  have Hkl := Lib.hid hkl
  clear hml htl hkl
  go_enter Tryd.func29, Tryd.ntmps29
  go_wp2_with (go_at_call 27; refine (Copy_any _ _ _ l _ (by omega) hr).mono ?_; rintro e w1 ⟨A1, c1, rfl, hown1, hbel1⟩)
  go_loopw [6, 13] (fun v i wr => ∃ q n : Nat, q ≤ m ∧ i = .int .i64 (q : Int) ∧ AllShort ts q ∧ wr.ownsRow w.heap.size 5 1 v n ((l ++ txs (ts.take q)).map bv) ∧ Below w.heap.size w wr) (fun _ i _ => m - (intOf i).toNat)
  case atStart => exact ⟨0, k, by omega, rfl, AllShort.zero ts, by simpa [txs] using hown1, hbel1⟩
  case round =>
    obtain ⟨q, n, hq, rfl, hall, hown2, hbel2⟩ := hrel
    have hsz := hbel2.size
    have hn : n ≤ 1073741824 + 65537 * m := by
      have h1 := hown2.1
      have h2 := hall.take
      have := Hkl.out
      simp only [List.length_map, List.length_append] at h1
      omega
    by_cases hlt : q < m
    · obtain ⟨b, o, rfl, hb, hc⟩ := (hv.below hbel2).pos (by omega)
      obtain ⟨v, hvj⟩ : ∃ v, vs[q]? = some v := ⟨_, List.getElem?_eq_getElem (by have := Hml.out; omega)⟩
      obtain ⟨t, htj⟩ : ∃ t, ts[q]? = some t := ⟨_, List.getElem?_eq_getElem (by have := Htl.out; omega)⟩
      obtain ⟨Ax, cx, rfl, hcx, hrx⟩ := (ht.below hbel2).2 q v t hvj htj
      have hcell := hc q _ hvj
      have Htj := Lib.hid htj
      clear hvj htj hc
      by_cases hs : t.length ≤ 65535
      · go_wp2_with (first
            | (go_at_call 30; refine (Bytes_any 2 t.length _ (by omega) (by omega)).mono ?_; rintro e w3 ⟨A3, c3, rfl, hown3, hbel3⟩; have hown2' := own_below hown2 hbel3; have hs3 := hbel3.size)
            | (at_builtin; refine wpList_append_rd _ rfl (.tmp 20) (.tmp 24) _ rfl w.heap.size 5 i0 _ 1 Tryd.underlying41 hi0 hz0 hz1 hz2 rfl u6 n _ rfl hown2' w3.heap.size A3 2 c3 ((be 2 t.length).map bv) rfl (Rd.of_own hown3) (one_bv _) (by simp only [maxLen]; omega) (by omega) (Nat.le_trans hsz hs3) ?_; intro v4 w4 hown4 hgr4 hat4; have hbel34 := (hbel3.mono hsz).grown hgr4 (Nat.le_trans hsz hs3) (fun g hg => (hown2.lt g hg).1); have hs34 := hbel34.size)
            | (at_builtin; refine wpList_append_rd _ rfl (.tmp 25) (.tmp 26) _ rfl w.heap.size 5 i0 _ 1 Tryd.underlying41 hi0 hz0 hz1 hz2 rfl v4 (n + 2) _ rfl hown4 w.heap.size Ax t.length cx (t.map bv) rfl (hrx.below hbel34) (one_bv _) (by simp only [maxLen]; omega) (by omega) (Nat.le_trans hsz hs34) ?_; intro v5 w5 hown5 hgr5 hat5))
        go_roundw
        case rel =>
          refine ⟨q + 1, n + 2 + t.length, by omega, by go_num, hall.snoc Htj.out hs, ?_, ?_⟩
          · rw [take_succ_of Htj.out, txs_snoc, ← List.append_assoc, ← List.append_assoc, List.map_append (l₂ := t), List.map_append (l₂ := be 2 t.length)]
            exact hown5
          · exact (hbel2.trans hbel34).grown hgr5 (Nat.le_trans hsz hs34) (fun g hg => (hown4.lt g hg).1)
        case measure => simp [intOf]; omega
      · go_wp2_with fail
        go_ret2
        exact ⟨hbel2, .inr ⟨fun h => hs (h q t Htj.out), rfl⟩⟩
    · obtain rfl : q = m := by omega
      go_wp2_with fail
      go_ret2
      obtain ⟨A', c', rfl, _, _⟩ := own_form hown2
      refine ⟨hbel2, .inl ⟨hall.all Htl.out, A', n, c', rfl, ?_⟩⟩
      have e : ts.take q = ts := List.take_of_length_le (by have := Htl.out; omega)
      rw [e] at hown2
      exact hown2

end Go.Proofs.YtlidhdljgnijaaaDoor

