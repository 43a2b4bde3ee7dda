import Derived.Test.YtgjeamapgdakcaaDoorG38
import Derived.Maps.AppendAt
import Derived.Laws.MakeOwn
import Derived.Test.YtgjeamapgdakcaaDoorG35
import Derived.Test.YtgjeamapgdakcaaDoorG37
/-
  CONTRACT of the program's Many (draw).
-/
set_option linter.unusedVariables false
namespace Go.Proofs.YtgjeamapgdakcaaDoor
open Go.RowKit

theorem step_append_ownD {P : Program} {w : World} {ops : Array Oper} {o : Oper} {a : Act} {K : Act → World → Prop} {Q : Exit → Act → World → Prop} {E : Prop} (hgd : Region.wanted o (yielded ops a.tmps) = true) (dst : Option Tmp) (hd : o.dst = dst) (s x : Operand) (t : TypeId)
    (ho : o.op = .call { callee := .builtin .append, args := #[s, x], argTypes := #[t, t] })
    (base : Nat) (e : TypeId) (i : TypeInfo) (z : Value) (size bytes : Nat) (ht : P.underlying t = some (.slice e)) (hi : P.info? e = some i) (hz : i.zero = some z)
    (hsize : i.size = size) (hby : i.bytes = bytes) (hzs : z.cells.size = size) (hsz : 0 < size)
    (v : Value) (n : Nat) (xs : List Value) (hs : a.eval s = v) (hown : w.ownsRow base e size v n xs)
    (ad : Addr) (m c : Nat) (news : List Value) (hx : a.eval x = .slice (some ad) m c) (hl : news.length = m * size) (hnews : ∀ j u, news[j]? = some u → w.cell? (ad.add j) = some u) (h1 : ∀ u ∈ news, u.oneCell' = true)
    (h63 : n + m ≤ maxLen) (hbytes : (n + m) * bytes ≤ 140737488355328) (hbase : base ≤ w.heap.size)
    (h : ∀ v' w', w'.ownsRow base e size v' (n + m) (xs ++ news) → w.grownBy w' v.ownBlock → K (a.put dst v') w') : if Region.wanted o (yielded ops a.tmps) = true then Oper.wp P o a w K Q else E := by
  subst hd
  rw [if_pos hgd]
  obtain ⟨v', w', hr, h2, h3, h4, h5⟩ := run_append_own_at (P := P) w base t o.type e i z size bytes ht hi hz hsize hby hzs hsz v n xs hown ad m c news hl hnews h1 h63 hbytes hbase
  unfold Oper.wp execOp
  simp only [ho, resolve, invoke, builtin, Sem.run_bind, Sem.run_pure, Result.andThen_ok, List.map_toArray, List.map_cons, List.map_nil, hs, hx, hr]
  exact h v' w' h2 h3

set_option maxRecDepth 100000 in
set_option maxHeartbeats 8000000 in
theorem PDMany : HPM := by
  intro s N n w hs hN hn1 hn2 hT
  have hM0 := ((Ms.nil w).box 27 (drC s N)).box 27 #[.int .u8 0, .int .u8 0, .int .u8 0, .int .u8 0, .int .u8 0, .int .u8 0, .int .u8 0, .int .u8 0, .int .u8 0, .int .u8 0, .int .u8 0, .int .u8 0, .int .u8 0, .int .u8 0, .int .u8 0, .int .u8 0, .int .u8 0, .int .u8 0, .int .u8 0, .int .u8 0, .int .u8 0, .int .u8 0, .int .u8 0, .int .u8 0, .int .u8 0, .int .u8 0, .int .u8 0, .int .u8 0, .int .u8 0, .int .u8 0, .int .u8 0, .int .u8 0, .int .u64 0]
  simp only [World.size_alloc] at hM0
  have Hs := Lib.hid hs
  have Hsd := Lib.hid (sizeDr N hs)
  have Hsd0 := Lib.hid (sizeDr (s := zeroD) 0 rfl)
  have Hod0 := Lib.hid (one_dr zeroD 0)
  have Hsk0 := Lib.hid (sizeKey zeroD_len)
  have Hok0 := Lib.hid (one_keyF zeroD)
  rw [drZ] at Hsd0 Hod0
  rw [keyZD] at Hsk0 Hok0
  have hck := fun wx => PDCheck s N wx hs hN
  have Hpost := Lib.hid (show ∀ e w', Below w.heap.size w w' → ((errM N n ≠ 0 ∧ e = .returned (.tuple #[.slice none 0 0, .agg #[.int .u8 0, .int .u8 0, .int .u8 0, .int .u8 0, .int .u8 0, .int .u8 0, .int .u8 0, .int .u8 0, .int .u8 0, .int .u8 0, .int .u8 0, .int .u8 0, .int .u8 0, .int .u8 0, .int .u8 0, .int .u8 0, .int .u8 0, .int .u8 0, .int .u8 0, .int .u8 0, .int .u8 0, .int .u8 0, .int .u8 0, .int .u8 0, .int .u8 0, .int .u8 0, .int .u8 0, .int .u8 0, .int .u8 0, .int .u8 0, .int .u8 0, .int .u8 0, .int .u64 0], .int .i64 (errM N n)])) ∨
    (errM N n = 0 ∧ ∃ v, e = .returned (.tuple #[v, .agg (drC s (N + n.toNat)), .int .i64 0]) ∧ w'.ownsRow w.heap.size 24 32 v n.toNat ((keysU s N n.toNat).map bv))) → ManyPostD w s N n e w' from fun _ _ h1 h2 => by
      rw [← drZ] at h2
      exact ⟨h1, h2⟩)
  generalize ManyPostD w s N n = PO at *
  clear hs
  go_enter Tryd.func13, Tryd.ntmps13
  by_cases h1 : 4294967296 < N
  · have hc1 : chkV N = 1 := by rw [chkV, if_pos h1]
    rw [hc1] at hck
    have He := Lib.hid (show errM N n = 1 by rw [errM, if_pos (.inl h1)])
    go_wp2_with ((with_reducible show wpList _ _ _ (⟨some 12, _, _, _, _, _⟩ :: _) _ _); refine wpList_loadC (by kernel_rfl) 27 (.tmp 2) rfl (w.heap.size) rfl 27 (drC s N) _ (hM0.get 1 rfl) Tryd.underlying27 rfl Hsd.out ?_)
    refine (hck _).mono ?_
    rintro e w1 ⟨rfl, hb1⟩
    have hM1 := hM0.call hb1
    clear hM0 hb1
    go_wp2_with ((with_reducible show wpList _ _ _ (⟨none, Op.store 27 _ _, _, _, _, _⟩ :: _) _ _); refine wpList_store_row rfl 27 (.tmp 5) (.tmp 16) rfl (w.heap.size + 1) #[.int .u8 0, .int .u8 0, .int .u8 0, .int .u8 0, .int .u8 0, .int .u8 0, .int .u8 0, .int .u8 0, .int .u8 0, .int .u8 0, .int .u8 0, .int .u8 0, .int .u8 0, .int .u8 0, .int .u8 0, .int .u8 0, .int .u8 0, .int .u8 0, .int .u8 0, .int .u8 0, .int .u8 0, .int .u8 0, .int .u8 0, .int .u8 0, .int .u8 0, .int .u8 0, .int .u8 0, .int .u8 0, .int .u8 0, .int .u8 0, .int .u8 0, .int .u8 0, .int .u64 0] rfl rfl 27 _ (hM1.get 0 rfl) Hsd0.out rfl Hod0.out ?_)
    exact bodyPost_ret (results_tcT rfl _ _ (w.heap.size + 1) 27 #[.int .u8 0, .int .u8 0, .int .u8 0, .int .u8 0, .int .u8 0, .int .u8 0, .int .u8 0, .int .u8 0, .int .u8 0, .int .u8 0, .int .u8 0, .int .u8 0, .int .u8 0, .int .u8 0, .int .u8 0, .int .u8 0, .int .u8 0, .int .u8 0, .int .u8 0, .int .u8 0, .int .u8 0, .int .u8 0, .int .u8 0, .int .u8 0, .int .u8 0, .int .u8 0, .int .u8 0, .int .u8 0, .int .u8 0, .int .u8 0, .int .u8 0, .int .u8 0, .int .u64 0] _ rfl ((hM1.get 0 rfl).row _) Tryd.underlying27 rfl Hsd0.out) rfl (Hpost.out _ _ (below_setRow hM1.old (by omega) _) (.inl ⟨by rw [He.out]; decide, by rw [He.out]; rfl⟩))
  have hc1 : chkV N = 0 := by rw [chkV, if_neg h1]
  rw [hc1] at hck
  by_cases h2 : n < 0 ∨ 1000 < n
  · have He := Lib.hid (show errM N n = 1 by rw [errM, if_pos (.inr h2)])
    go_wp2_with ((with_reducible show wpList _ _ _ (⟨some 12, _, _, _, _, _⟩ :: _) _ _); refine wpList_loadC (by kernel_rfl) 27 (.tmp 2) rfl (w.heap.size) rfl 27 (drC s N) _ (hM0.get 1 rfl) Tryd.underlying27 rfl Hsd.out ?_)
    refine (hck _).mono ?_
    rintro e w1 ⟨rfl, hb1⟩
    have hM1 := hM0.call hb1
    clear hM0 hb1
    rcases h2 with h2 | h2
    · go_wp2_with ((with_reducible show wpList _ _ _ (⟨none, Op.store 27 _ _, _, _, _, _⟩ :: _) _ _); refine wpList_store_row rfl 27 (.tmp 5) (.tmp 24) rfl (w.heap.size + 1) #[.int .u8 0, .int .u8 0, .int .u8 0, .int .u8 0, .int .u8 0, .int .u8 0, .int .u8 0, .int .u8 0, .int .u8 0, .int .u8 0, .int .u8 0, .int .u8 0, .int .u8 0, .int .u8 0, .int .u8 0, .int .u8 0, .int .u8 0, .int .u8 0, .int .u8 0, .int .u8 0, .int .u8 0, .int .u8 0, .int .u8 0, .int .u8 0, .int .u8 0, .int .u8 0, .int .u8 0, .int .u8 0, .int .u8 0, .int .u8 0, .int .u8 0, .int .u8 0, .int .u64 0] rfl rfl 27 _ (hM1.get 0 rfl) Hsd0.out rfl Hod0.out ?_)
      exact bodyPost_ret (results_tcT rfl _ _ (w.heap.size + 1) 27 #[.int .u8 0, .int .u8 0, .int .u8 0, .int .u8 0, .int .u8 0, .int .u8 0, .int .u8 0, .int .u8 0, .int .u8 0, .int .u8 0, .int .u8 0, .int .u8 0, .int .u8 0, .int .u8 0, .int .u8 0, .int .u8 0, .int .u8 0, .int .u8 0, .int .u8 0, .int .u8 0, .int .u8 0, .int .u8 0, .int .u8 0, .int .u8 0, .int .u8 0, .int .u8 0, .int .u8 0, .int .u8 0, .int .u8 0, .int .u8 0, .int .u8 0, .int .u8 0, .int .u64 0] _ rfl ((hM1.get 0 rfl).row _) Tryd.underlying27 rfl Hsd0.out) rfl (Hpost.out _ _ (below_setRow hM1.old (by omega) _) (.inl ⟨by rw [He.out]; decide, by rw [He.out]; rfl⟩))
    · have h3 : ¬ n < 0 := by omega
      go_wp2_with ((with_reducible show wpList _ _ _ (⟨none, Op.store 27 _ _, _, _, _, _⟩ :: _) _ _); refine wpList_store_row rfl 27 (.tmp 5) (.tmp 24) rfl (w.heap.size + 1) #[.int .u8 0, .int .u8 0, .int .u8 0, .int .u8 0, .int .u8 0, .int .u8 0, .int .u8 0, .int .u8 0, .int .u8 0, .int .u8 0, .int .u8 0, .int .u8 0, .int .u8 0, .int .u8 0, .int .u8 0, .int .u8 0, .int .u8 0, .int .u8 0, .int .u8 0, .int .u8 0, .int .u8 0, .int .u8 0, .int .u8 0, .int .u8 0, .int .u8 0, .int .u8 0, .int .u8 0, .int .u8 0, .int .u8 0, .int .u8 0, .int .u8 0, .int .u8 0, .int .u64 0] rfl rfl 27 _ (hM1.get 0 rfl) Hsd0.out rfl Hod0.out ?_)
      exact bodyPost_ret (results_tcT rfl _ _ (w.heap.size + 1) 27 #[.int .u8 0, .int .u8 0, .int .u8 0, .int .u8 0, .int .u8 0, .int .u8 0, .int .u8 0, .int .u8 0, .int .u8 0, .int .u8 0, .int .u8 0, .int .u8 0, .int .u8 0, .int .u8 0, .int .u8 0, .int .u8 0, .int .u8 0, .int .u8 0, .int .u8 0, .int .u8 0, .int .u8 0, .int .u8 0, .int .u8 0, .int .u8 0, .int .u8 0, .int .u8 0, .int .u8 0, .int .u8 0, .int .u8 0, .int .u8 0, .int .u8 0, .int .u8 0, .int .u64 0] _ rfl ((hM1.get 0 rfl).row _) Tryd.underlying27 rfl Hsd0.out) rfl (Hpost.out _ _ (below_setRow hM1.old (by omega) _) (.inl ⟨by rw [He.out]; decide, by rw [He.out]; rfl⟩))
  obtain ⟨m, rfl⟩ := Int.eq_ofNat_of_zero_le (show 0 ≤ n by omega)
  have hm : m ≤ 1000 := by omega
  have h3 : ¬ ((m : Int) < 0) := by omega
  have h4 : ¬ (1000 < (m : Int)) := by omega
  have Hem := Lib.hid (show errM N (m : Int) = if (4294967296 : Int) < (N : Int) + (m : Int) then 8 else 0 by rw [errM, if_neg (by omega)])
  have hN0 : N ≤ 4294967296 := by omega
  rw [show ((m : Int)).toNat = m from rfl] at Hpost
  go_wp2_with ((with_reducible show wpList _ _ _ (⟨some 12, _, _, _, _, _⟩ :: _) _ _); refine wpList_loadC (by kernel_rfl) 27 (.tmp 2) rfl (w.heap.size) rfl 27 (drC s N) _ (hM0.get 1 rfl) Tryd.underlying27 rfl Hsd.out ?_)
  refine (hck _).mono ?_
  rintro e w1 ⟨rfl, hb1⟩
  have hM1 := hM0.call hb1
  clear hM0 hb1
  obtain ⟨iK, hiK, hzK, hsK, hbK⟩ := info_parts infoKeyZ
  have hlt1 := (hM1.get 0 rfl).lt
  obtain ⟨wm, hmk, hownm, hgrm⟩ := run_make_own (P := Tryd.prog) w1 (w.heap.size + 1 + 1) 35 24 iK _ 32 Tryd.underlying35 hiK hzK hsK .i64 .i64 m (by rw [hbK]; omega) (by simp only [maxLen]; omega) (by omega)
  have hMm := hM1.grownD hgrm (fun k hk => by cases hk) (fun p hp k hk => by cases hk)
  have hgem : w.heap.size + 1 < wm.heap.size := (hMm.get 0 rfl).lt
  obtain ⟨v0, hv0⟩ : ∃ v0 : Value, v0 = .slice (some ⟨w1.heap.size, 0, none⟩) 0 m := ⟨_, rfl⟩
  rw [← hv0] at hmk hownm
  have Hmk := Lib.hid hmk
  have Hv0 := Lib.hid hv0
  clear hM1 hmk hv0 hlt1 hgrm
  go_wp2_with fail
  rw [Hmk.out]
  clear Hmk
  go_wp2_with fail
  go_loopw [8, 28] (fun v i wr => ∃ (j : Nat) (A : Option Addr) (c : Nat), j ≤ m ∧ N + j ≤ 4294967296 ∧ i = .int .i64 (j : Int) ∧ v = .slice A j c ∧ wr.ownsRow (w.heap.size + 1 + 1) 24 32 (.slice A j c) j ((keysU s N j).map bv) ∧ w.heap.size + 1 < wr.heap.size ∧ Ms w wr [(w.heap.size + 1, 27, #[.int .u8 0, .int .u8 0, .int .u8 0, .int .u8 0, .int .u8 0, .int .u8 0, .int .u8 0, .int .u8 0, .int .u8 0, .int .u8 0, .int .u8 0, .int .u8 0, .int .u8 0, .int .u8 0, .int .u8 0, .int .u8 0, .int .u8 0, .int .u8 0, .int .u8 0, .int .u8 0, .int .u8 0, .int .u8 0, .int .u8 0, .int .u8 0, .int .u8 0, .int .u8 0, .int .u8 0, .int .u8 0, .int .u8 0, .int .u8 0, .int .u8 0, .int .u8 0, .int .u64 0]), (w.heap.size, 27, drC s (N + j))]) (fun _ i _ => m - (intOf i).toNat)
  case atStart => exact ⟨0, _, _, by omega, by omega, rfl, Hv0.out, by rw [← Hv0.out]; exact hownm, hgem, hMm⟩
  case round =>
    obtain ⟨j, A, c, hj, hjN, rfl, rfl, hown, hgs, hM⟩ := hrel
    clear hMm hck hownm hgem Hv0
    have hTr := hT.below hM.old
    have Hsj := Lib.hid (sizeDr (N + j) Hs.out)
    by_cases hlt : j < m
    · have hl' : (j : Int) < (m : Int) := by omega
      by_cases h8 : N + j = 4294967296
      · have He := Lib.hid (show errM N (m : Int) = 8 by rw [Hem.out, if_pos (by omega)])
        have hnx := PDNext s (N + j) wr Hs.out (by omega) hTr
        rw [show nextV s (N + j) = .tuple #[.agg #[.int .u8 0, .int .u8 0, .int .u8 0, .int .u8 0, .int .u8 0, .int .u8 0, .int .u8 0, .int .u8 0, .int .u8 0, .int .u8 0, .int .u8 0, .int .u8 0, .int .u8 0, .int .u8 0, .int .u8 0, .int .u8 0, .int .u8 0, .int .u8 0, .int .u8 0, .int .u8 0, .int .u8 0, .int .u8 0, .int .u8 0, .int .u8 0, .int .u8 0, .int .u8 0, .int .u8 0, .int .u8 0, .int .u8 0, .int .u8 0, .int .u8 0, .int .u8 0], .agg #[.int .u8 0, .int .u8 0, .int .u8 0, .int .u8 0, .int .u8 0, .int .u8 0, .int .u8 0, .int .u8 0, .int .u8 0, .int .u8 0, .int .u8 0, .int .u8 0, .int .u8 0, .int .u8 0, .int .u8 0, .int .u8 0, .int .u8 0, .int .u8 0, .int .u8 0, .int .u8 0, .int .u8 0, .int .u8 0, .int .u8 0, .int .u8 0, .int .u8 0, .int .u8 0, .int .u8 0, .int .u8 0, .int .u8 0, .int .u8 0, .int .u8 0, .int .u8 0, .int .u64 0], .int .i64 8] by
          have e : errN (N + j) = 8 := by rw [errN, if_neg (by omega), if_pos h8]
          rw [nextV, if_neg (by rw [e]; decide), e, drZ]
          rfl] at hnx
        clear h8
        go_wp2_with ((with_reducible show wpList _ _ _ (⟨some 31, _, _, _, _, _⟩ :: _) _ _); refine wpList_loadC (by kernel_rfl) 27 (.tmp 2) rfl (w.heap.size) rfl 27 (drC s (N + j)) _ (hM.get 1 rfl) Tryd.underlying27 rfl Hsj.out ?_)
        refine hnx.mono ?_
        rintro e w2 ⟨rfl, hb2⟩
        have hM2 := hM.call hb2
        clear hM hnx hown
        have hB2 := (hM2.box 24 #[.int .u8 0, .int .u8 0, .int .u8 0, .int .u8 0, .int .u8 0, .int .u8 0, .int .u8 0, .int .u8 0, .int .u8 0, .int .u8 0, .int .u8 0, .int .u8 0, .int .u8 0, .int .u8 0, .int .u8 0, .int .u8 0, .int .u8 0, .int .u8 0, .int .u8 0, .int .u8 0, .int .u8 0, .int .u8 0, .int .u8 0, .int .u8 0, .int .u8 0, .int .u8 0, .int .u8 0, .int .u8 0, .int .u8 0, .int .u8 0, .int .u8 0, .int .u8 0]).box 27 #[.int .u8 0, .int .u8 0, .int .u8 0, .int .u8 0, .int .u8 0, .int .u8 0, .int .u8 0, .int .u8 0, .int .u8 0, .int .u8 0, .int .u8 0, .int .u8 0, .int .u8 0, .int .u8 0, .int .u8 0, .int .u8 0, .int .u8 0, .int .u8 0, .int .u8 0, .int .u8 0, .int .u8 0, .int .u8 0, .int .u8 0, .int .u8 0, .int .u8 0, .int .u8 0, .int .u8 0, .int .u8 0, .int .u8 0, .int .u8 0, .int .u8 0, .int .u8 0, .int .u64 0]
        have hg1 := hM2.old.size
        have hn1 := fun p hp => Nat.ne_of_lt ((hM2.rows p hp).lt)
        have hn2 := fun p hp => Nat.ne_of_lt (((hM2.box 24 #[.int .u8 0, .int .u8 0, .int .u8 0, .int .u8 0, .int .u8 0, .int .u8 0, .int .u8 0, .int .u8 0, .int .u8 0, .int .u8 0, .int .u8 0, .int .u8 0, .int .u8 0, .int .u8 0, .int .u8 0, .int .u8 0, .int .u8 0, .int .u8 0, .int .u8 0, .int .u8 0, .int .u8 0, .int .u8 0, .int .u8 0, .int .u8 0, .int .u8 0, .int .u8 0, .int .u8 0, .int .u8 0, .int .u8 0, .int .u8 0, .int .u8 0, .int .u8 0]).rows p hp).lt)
        simp only [World.size_alloc] at hB2 hn2
        have hM3 := Ms.set2 (ds := #[.int .u8 0, .int .u8 0, .int .u8 0, .int .u8 0, .int .u8 0, .int .u8 0, .int .u8 0, .int .u8 0, .int .u8 0, .int .u8 0, .int .u8 0, .int .u8 0, .int .u8 0, .int .u8 0, .int .u8 0, .int .u8 0, .int .u8 0, .int .u8 0, .int .u8 0, .int .u8 0, .int .u8 0, .int .u8 0, .int .u8 0, .int .u8 0, .int .u8 0, .int .u8 0, .int .u8 0, .int .u8 0, .int .u8 0, .int .u8 0, .int .u8 0, .int .u8 0]) (ds' := #[.int .u8 0, .int .u8 0, .int .u8 0, .int .u8 0, .int .u8 0, .int .u8 0, .int .u8 0, .int .u8 0, .int .u8 0, .int .u8 0, .int .u8 0, .int .u8 0, .int .u8 0, .int .u8 0, .int .u8 0, .int .u8 0, .int .u8 0, .int .u8 0, .int .u8 0, .int .u8 0, .int .u8 0, .int .u8 0, .int .u8 0, .int .u8 0, .int .u8 0, .int .u8 0, .int .u8 0, .int .u8 0, .int .u8 0, .int .u8 0, .int .u8 0, .int .u8 0, .int .u64 0]) hB2.swap hg1 (by omega) (by omega) hn1 (fun p hp => hn2 p (List.mem_cons_of_mem _ hp))
        go_wp2_with (first
          | ((with_reducible show wpList _ _ _ (⟨none, Op.store 24 _ _, _, _, _, _⟩ :: _) _ _); refine wpList_store_row rfl 24 (.tmp 9) (.tmp 33) rfl (w2.heap.size) #[.int .u8 0, .int .u8 0, .int .u8 0, .int .u8 0, .int .u8 0, .int .u8 0, .int .u8 0, .int .u8 0, .int .u8 0, .int .u8 0, .int .u8 0, .int .u8 0, .int .u8 0, .int .u8 0, .int .u8 0, .int .u8 0, .int .u8 0, .int .u8 0, .int .u8 0, .int .u8 0, .int .u8 0, .int .u8 0, .int .u8 0, .int .u8 0, .int .u8 0, .int .u8 0, .int .u8 0, .int .u8 0, .int .u8 0, .int .u8 0, .int .u8 0, .int .u8 0] rfl rfl 24 _ (hB2.get 1 rfl) Hsk0.out rfl Hok0.out ?_)
          | ((with_reducible show wpList _ _ _ (⟨none, Op.store 27 _ _, _, _, _, _⟩ :: _) _ _); refine wpList_store_row rfl 27 (.tmp 10) (.tmp 34) rfl (w2.heap.size + 1) #[.int .u8 0, .int .u8 0, .int .u8 0, .int .u8 0, .int .u8 0, .int .u8 0, .int .u8 0, .int .u8 0, .int .u8 0, .int .u8 0, .int .u8 0, .int .u8 0, .int .u8 0, .int .u8 0, .int .u8 0, .int .u8 0, .int .u8 0, .int .u8 0, .int .u8 0, .int .u8 0, .int .u8 0, .int .u8 0, .int .u8 0, .int .u8 0, .int .u8 0, .int .u8 0, .int .u8 0, .int .u8 0, .int .u8 0, .int .u8 0, .int .u8 0, .int .u8 0, .int .u64 0] rfl rfl 27 _ ((hB2.get 0 rfl).rowFar (by omega) _) Hsd0.out rfl Hod0.out ?_)
          | ((with_reducible show wpList _ _ _ (⟨none, Op.store 27 _ _, _, _, _, _⟩ :: _) _ _); refine wpList_store_row rfl 27 (.tmp 5) (.tmp 38) rfl (w.heap.size + 1) #[.int .u8 0, .int .u8 0, .int .u8 0, .int .u8 0, .int .u8 0, .int .u8 0, .int .u8 0, .int .u8 0, .int .u8 0, .int .u8 0, .int .u8 0, .int .u8 0, .int .u8 0, .int .u8 0, .int .u8 0, .int .u8 0, .int .u8 0, .int .u8 0, .int .u8 0, .int .u8 0, .int .u8 0, .int .u8 0, .int .u8 0, .int .u8 0, .int .u8 0, .int .u8 0, .int .u8 0, .int .u8 0, .int .u8 0, .int .u8 0, .int .u8 0, .int .u8 0, .int .u64 0] rfl rfl 27 _ (hM3.get 2 rfl) Hsd0.out rfl Hod0.out ?_))
        exact bodyPost_ret (results_tcT rfl _ _ (w.heap.size + 1) 27 #[.int .u8 0, .int .u8 0, .int .u8 0, .int .u8 0, .int .u8 0, .int .u8 0, .int .u8 0, .int .u8 0, .int .u8 0, .int .u8 0, .int .u8 0, .int .u8 0, .int .u8 0, .int .u8 0, .int .u8 0, .int .u8 0, .int .u8 0, .int .u8 0, .int .u8 0, .int .u8 0, .int .u8 0, .int .u8 0, .int .u8 0, .int .u8 0, .int .u8 0, .int .u8 0, .int .u8 0, .int .u8 0, .int .u8 0, .int .u8 0, .int .u8 0, .int .u8 0, .int .u64 0] _ rfl ((hM3.get 2 rfl).row _) Tryd.underlying27 rfl Hsd0.out) rfl (Hpost.out _ _ (below_setRow hM3.old (by omega) _) (.inl ⟨by rw [He.out]; decide, by rw [He.out]; rfl⟩))
      have hnx := PDNext s (N + j) wr Hs.out (by omega) hTr
      rw [show nextV s (N + j) = .tuple #[.agg (keyC (drawU s (N + j))), .agg (drC s (N + j + 1)), .int .i64 0] by
        rw [nextV, if_pos (by rw [errN, if_neg (by omega), if_neg h8])]
        rfl] at hnx
      have Hks := Lib.hid (keysU_succ s N j)
      have Hkl := Lib.hid (drawU_len s (N + j))
      have Hsk := Lib.hid (sizeKey (drawU_len s (N + j)))
      have Hok := Lib.hid (one_keyF (drawU s (N + j)))
      have Hzk := Lib.hid (show (#[.int .u8 0, .int .u8 0, .int .u8 0, .int .u8 0, .int .u8 0, .int .u8 0, .int .u8 0, .int .u8 0, .int .u8 0, .int .u8 0, .int .u8 0, .int .u8 0, .int .u8 0, .int .u8 0, .int .u8 0, .int .u8 0, .int .u8 0, .int .u8 0, .int .u8 0, .int .u8 0, .int .u8 0, .int .u8 0, .int .u8 0, .int .u8 0, .int .u8 0, .int .u8 0, .int .u8 0, .int .u8 0, .int .u8 0, .int .u8 0, .int .u8 0, .int .u8 0] : Array Value).size = (keyC (drawU s (N + j))).size by rw [keyC_size, drawU_len]; rfl)
      have Hsn := Lib.hid (sizeDr (N + j + 1) Hs.out)
      have Hon := Lib.hid (one_dr s (N + j + 1))
      have Hzn := Lib.hid (show (#[.int .u8 0, .int .u8 0, .int .u8 0, .int .u8 0, .int .u8 0, .int .u8 0, .int .u8 0, .int .u8 0, .int .u8 0, .int .u8 0, .int .u8 0, .int .u8 0, .int .u8 0, .int .u8 0, .int .u8 0, .int .u8 0, .int .u8 0, .int .u8 0, .int .u8 0, .int .u8 0, .int .u8 0, .int .u8 0, .int .u8 0, .int .u8 0, .int .u8 0, .int .u8 0, .int .u8 0, .int .u8 0, .int .u8 0, .int .u8 0, .int .u8 0, .int .u8 0, .int .u64 0] : Array Value).size = (drC s (N + j + 1)).size by rw [drC_size _ Hs.out]; rfl)
      have Hzs := Lib.hid (show (drC s (N + j)).size = (drC s (N + j + 1)).size by rw [drC_size _ Hs.out, drC_size _ Hs.out])
      generalize drawU s (N + j) = kk at *
      go_wp2_with ((with_reducible show wpList _ _ _ (⟨some 31, _, _, _, _, _⟩ :: _) _ _); refine wpList_loadC (by kernel_rfl) 27 (.tmp 2) rfl (w.heap.size) rfl 27 (drC s (N + j)) _ (hM.get 1 rfl) Tryd.underlying27 rfl Hsj.out ?_)
      refine hnx.mono ?_
      rintro e w2 ⟨rfl, hb2⟩
      have hM2 := hM.call hb2
      have hown2 := own_below hown hb2
      have hs2 := hb2.size
      clear hM hnx hown
      have hB2 := (hM2.box 24 #[.int .u8 0, .int .u8 0, .int .u8 0, .int .u8 0, .int .u8 0, .int .u8 0, .int .u8 0, .int .u8 0, .int .u8 0, .int .u8 0, .int .u8 0, .int .u8 0, .int .u8 0, .int .u8 0, .int .u8 0, .int .u8 0, .int .u8 0, .int .u8 0, .int .u8 0, .int .u8 0, .int .u8 0, .int .u8 0, .int .u8 0, .int .u8 0, .int .u8 0, .int .u8 0, .int .u8 0, .int .u8 0, .int .u8 0, .int .u8 0, .int .u8 0, .int .u8 0]).box 27 #[.int .u8 0, .int .u8 0, .int .u8 0, .int .u8 0, .int .u8 0, .int .u8 0, .int .u8 0, .int .u8 0, .int .u8 0, .int .u8 0, .int .u8 0, .int .u8 0, .int .u8 0, .int .u8 0, .int .u8 0, .int .u8 0, .int .u8 0, .int .u8 0, .int .u8 0, .int .u8 0, .int .u8 0, .int .u8 0, .int .u8 0, .int .u8 0, .int .u8 0, .int .u8 0, .int .u8 0, .int .u8 0, .int .u8 0, .int .u8 0, .int .u8 0, .int .u8 0, .int .u64 0]
      have hg1 := hM2.old.size
      have hn1 := fun p hp => Nat.ne_of_lt ((hM2.rows p hp).lt)
      have hn2 := fun p hp => Nat.ne_of_lt (((hM2.box 24 #[.int .u8 0, .int .u8 0, .int .u8 0, .int .u8 0, .int .u8 0, .int .u8 0, .int .u8 0, .int .u8 0, .int .u8 0, .int .u8 0, .int .u8 0, .int .u8 0, .int .u8 0, .int .u8 0, .int .u8 0, .int .u8 0, .int .u8 0, .int .u8 0, .int .u8 0, .int .u8 0, .int .u8 0, .int .u8 0, .int .u8 0, .int .u8 0, .int .u8 0, .int .u8 0, .int .u8 0, .int .u8 0, .int .u8 0, .int .u8 0, .int .u8 0, .int .u8 0]).rows p hp).lt)
      simp only [World.size_alloc] at hB2 hn2
      have hM3 := Ms.set2 (ds := (keyC kk)) (ds' := (drC s (N + j + 1))) hB2.swap hg1 (by omega) (by omega) hn1 (fun p hp => hn2 p (List.mem_cons_of_mem _ hp))
      have hownA := own_below hown2 ((d_al w2 (.cells #[.int .u8 0, .int .u8 0, .int .u8 0, .int .u8 0, .int .u8 0, .int .u8 0, .int .u8 0, .int .u8 0, .int .u8 0, .int .u8 0, .int .u8 0, .int .u8 0, .int .u8 0, .int .u8 0, .int .u8 0, .int .u8 0, .int .u8 0, .int .u8 0, .int .u8 0, .int .u8 0, .int .u8 0, .int .u8 0, .int .u8 0, .int .u8 0, .int .u8 0, .int .u8 0, .int .u8 0, .int .u8 0, .int .u8 0, .int .u8 0, .int .u8 0, .int .u8 0] 24)).trans ((d_al _ (.cells #[.int .u8 0, .int .u8 0, .int .u8 0, .int .u8 0, .int .u8 0, .int .u8 0, .int .u8 0, .int .u8 0, .int .u8 0, .int .u8 0, .int .u8 0, .int .u8 0, .int .u8 0, .int .u8 0, .int .u8 0, .int .u8 0, .int .u8 0, .int .u8 0, .int .u8 0, .int .u8 0, .int .u8 0, .int .u8 0, .int .u8 0, .int .u8 0, .int .u8 0, .int .u8 0, .int .u8 0, .int .u8 0, .int .u8 0, .int .u8 0, .int .u8 0, .int .u8 0, .int .u64 0] 27)).mono (al0 _ _)))
      have hown3 := own_row (own_row hownA (g' := w2.heap.size) (fun g hg => Nat.ne_of_lt (hown2.lt g hg).2) (keyC kk)) (g' := w2.heap.size + 1) (fun g hg => by have := (hown2.lt g hg).2; omega) (drC s (N + j + 1))
      have hne3 : ∀ g, (Value.slice A j c).ownBlock = some g → g < w2.heap.size := fun g hg => (hown2.lt g hg).2
      have hgs2 : w.heap.size + 1 < w2.heap.size := Nat.lt_of_lt_of_le hgs hs2
      clear hownA hown2 hb2 hs2 hgs
      go_upto_region 12 with (first
        | ((with_reducible show wpList _ _ _ (⟨none, Op.store 24 _ _, _, _, _, _⟩ :: _) _ _); refine wpList_store_row rfl 24 (.tmp 9) (.tmp 33) rfl (w2.heap.size) (keyC kk) rfl rfl 24 _ (hB2.get 1 rfl) Hsk.out Hzk.out Hok.out ?_)
        | ((with_reducible show wpList _ _ _ (⟨none, Op.store 27 _ _, _, _, _, _⟩ :: _) _ _); refine wpList_store_row rfl 27 (.tmp 10) (.tmp 34) rfl (w2.heap.size + 1) (drC s (N + j + 1)) rfl rfl 27 _ ((hB2.get 0 rfl).rowFar (by omega) _) Hsn.out Hzn.out Hon.out ?_))
      try simp only [Act.put]
      refine wp_gen (fun wx => Ms w wx [(w2.heap.size, 24, keyC kk), (w2.heap.size + 1, 27, drC s (N + j + 1)), (w.heap.size + 1, 27, #[.int .u8 0, .int .u8 0, .int .u8 0, .int .u8 0, .int .u8 0, .int .u8 0, .int .u8 0, .int .u8 0, .int .u8 0, .int .u8 0, .int .u8 0, .int .u8 0, .int .u8 0, .int .u8 0, .int .u8 0, .int .u8 0, .int .u8 0, .int .u8 0, .int .u8 0, .int .u8 0, .int .u8 0, .int .u8 0, .int .u8 0, .int .u8 0, .int .u8 0, .int .u8 0, .int .u8 0, .int .u8 0, .int .u8 0, .int .u8 0, .int .u8 0, .int .u8 0, .int .u64 0]), (w.heap.size, 27, drC s (N + j))] ∧ wx.ownsRow (w.heap.size + 1 + 1) 24 32 (.slice A j c) j ((keysU s N j).map bv)) ⟨hM3, hown3⟩ ?_
      clear hM3 hown3 hB2 hg1 hn1 hn2 hM2
      rintro w3 ⟨hM, hown⟩
      generalize w2.heap.size = g8 at *
      have Hfd := Lib.hid (fold_key Hkl.out)
      have hks : (keyC kk).size = 32 := by rw [keyC_size, Hkl.out]
      have hkl32 : (kk.map bv).length = 1 * 32 := by rw [List.length_map, Hkl.out]
      obtain ⟨iK, hiK, hzK, hsK, hbK⟩ := info_parts infoKeyZ
      have hown1 : ∀ k, (Value.slice A j c).ownBlock = some k → w.heap.size + 1 + 1 ≤ k ∧ k < g8 := fun k hk => ⟨(hown.lt k hk).1, hne3 k hk⟩
      have hun := Tryd.underlying24
      have hud := Tryd.underlying27
      have hsk : (Tryd.prog.info? 24).map (·.size) = some (keyC kk).toList.length := by simpa using Hsk.out
      have hsd : (Tryd.prog.info? 27).map (·.size) = some (drC s (N + j + 1)).toList.length := by simpa using Hsn.out
      have hkeep : ∀ wx : World, Below w3.heap.size w3 wx → wx.rangeAt g8 0 (keyC kk).toList ∧ wx.rangeAt (g8 + 1) 0 (drC s (N + j + 1)).toList := fun wx hb => ⟨((hM.get 0 rfl).call hb).range, ((hM.get 1 rfl).call hb).range⟩
      have hMx := hM.drew
      have hownx := own_below hown (c_drew (c_refl _))
      clear hown
      refine beginT (fun wx => wx.rangeAt g8 0 (keyC kk).toList ∧ wx.rangeAt (g8 + 1) 0 (drC s (N + j + 1)).toList) 6 (by kernel_rfl) ?_
      have hS := hkeep _ (c_drew (c_refl _))
      refine takeD 0 (some 40) (.slice A j c) rfl rfl (by kernel_rfl) (by kernel_rfl) (by kernel_rfl) (by kernel_rfl) (fun _ _ _ h => h) (Or.inl ⟨by kernel_rfl, fun wx hSw => by go_simp⟩) hS ?_
      simp only [Act.put, List.setIfInBounds_toArray, List.set_cons_zero, List.set_cons_succ]
      refine loadT 1 (some 41) 24 (.tmp 9) g8 0 (keyC kk).toList rfl rfl (by kernel_rfl) (by kernel_rfl) (by kernel_rfl) (by kernel_rfl) rfl (by kernel_rfl) rfl (fun wx hSw => hSw.1) hun rfl hsk (fun _ _ _ h => h) hS ?_
      simp only [Act.put, List.setIfInBounds_toArray, List.set_cons_zero, List.set_cons_succ, Array.toArray_toList]
      refine loadT 4 (some 44) 27 (.tmp 10) (g8 + 1) 0 (drC s (N + j + 1)).toList rfl rfl (by kernel_rfl) (by kernel_rfl) (by kernel_rfl) (by kernel_rfl) rfl (by kernel_rfl) rfl (fun wx hSw => hSw.2) hud rfl hsd (fun _ _ _ h => h) hS ?_
      simp only [Act.put, List.setIfInBounds_toArray, List.set_cons_zero, List.set_cons_succ, Array.toArray_toList]
      have hx0 : Below w3.heap.size w3 w3.drew := c_drew (c_refl _)
      have hwx0 := hx0.size
      generalize w3.drew = x0 at *
      refine oneT 2 (by kernel_rfl) rfl (fun K hK => ?_)
      go_simp
      rw [Hfd.out]
      refine hK.out _ _ (fun _ => hkeep _ (by (repeat (first | exact c_refl _ | refine c_drew ?_ | refine c_alloc ?_ _ | refine c_row ?_ (by first | omega | exact Nat.le_refl _) _ | refine c_call ?_ (by assumption))); first | done | fail "open")) ?_
      clear hK K
      have hal := d_al x0 (.cells (keyC kk) 24)
      have hM4 := hMx.call hal
      have hown4 := own_below hownx hal
      have hr4 : RowC (x0.alloc (.cells (keyC kk) 24)) x0.heap.size 24 (keyC kk) := RowC.new _ _ _
      have hnews : ∀ q u, (kk.map bv)[q]? = some u → (x0.alloc (.cells (keyC kk) 24)).cell? ((⟨x0.heap.size, 0, none⟩ : Addr).add q) = some u := fun q u hu => by
        rw [show ((⟨x0.heap.size, 0, none⟩ : Addr).add q) = ⟨x0.heap.size, q, none⟩ by
          simp only [Addr.add, Nat.zero_add]
          split <;> simp_all]
        exact hr4.cell (by simpa [keyC] using hu)
      have hwb : w.heap.size + 1 + 1 ≤ (x0.alloc (.cells (keyC kk) 24)).heap.size := by
        have := (hMx.get 2 rfl).lt
        simp
        omega
      clear hownx hr4
      refine oneT 3 (by kernel_rfl) rfl (fun K hK => ?_)
      refine step_append_ownD (by kernel_rfl) (some 43) rfl (.tmp 40) (.tmp 42) _ rfl (w.heap.size + 1 + 1) 24 iK _ 32 32 Tryd.underlying35 hiK hzK hsK hbK rfl (by omega) (.slice A j c) j _ rfl hown4 ⟨x0.heap.size, 0, none⟩ 1 1 (kk.map bv) rfl hkl32 hnews (one_bv _) (by simp only [maxLen]; omega) (by omega) hwb ?_
      intro v5 w5 hown5 hgr5
      obtain ⟨A5, c5, rfl⟩ := own_sl hown5
      rw [← List.map_append, ← Hks.out] at hown5
      have hM5 := hM4.grownD hgr5 (fun k hk => by have := (hown1 k hk).1; omega) (fun p hp k hk => by have := hown1 k hk; simp at hp; rcases hp with rfl | rfl | rfl | rfl <;> simp <;> omega)
      refine hK.out _ _ (fun _ => ⟨(hM5.get 0 rfl).range, (hM5.get 1 rfl).range⟩) ?_
      clear hK K
      simp only [Act.put, List.setIfInBounds_toArray, List.set_cons_zero, List.set_cons_succ]
      refine oneT 5 (by kernel_rfl) rfl (fun K hK => ?_)
      go_simp
      refine hK.out _ _ (fun _ => ⟨(hM5.get 0 rfl).range, (hM5.get 1 rfl).range⟩) ?_
      clear hK K
      refine oneT 6 (by kernel_rfl) rfl (fun K hK => ?_)
      refine step_store_row rfl 27 (.tmp 2) (.tmp 44) rfl (w.heap.size) (drC s (N + j + 1)) rfl rfl 27 _ (hM5.get 3 rfl) Hsn.out Hzs.out Hon.out ?_
      refine hK.out _ _ (fun h => absurd rfl h) ?_
      clear hK K
      refine doneT (by kernel_rfl) ?_ _
      have hM6 := (Ms.set (Ms.sub (L' := [(w.heap.size, 27, drC s (N + j)), (w.heap.size + 1, 27, #[.int .u8 0, .int .u8 0, .int .u8 0, .int .u8 0, .int .u8 0, .int .u8 0, .int .u8 0, .int .u8 0, .int .u8 0, .int .u8 0, .int .u8 0, .int .u8 0, .int .u8 0, .int .u8 0, .int .u8 0, .int .u8 0, .int .u8 0, .int .u8 0, .int .u8 0, .int .u8 0, .int .u8 0, .int .u8 0, .int .u8 0, .int .u8 0, .int .u8 0, .int .u8 0, .int .u8 0, .int .u8 0, .int .u8 0, .int .u8 0, .int .u8 0, .int .u8 0, .int .u64 0])]) hM5 (fun p hp => by simp at hp; rcases hp with rfl | rfl <;> simp)) (Nat.le_refl _) (fun p hp => by simp at hp; subst hp; simp) (drC s (N + j + 1))).swap
      have hown6 := own_row hown5 (g' := w.heap.size) (fun g hg => by have := (hown5.lt g hg).1; omega) (drC s (N + j + 1))
      go_wp2_with fail
      go_roundw
      case rel => exact ⟨j + 1, A5, c5, by omega, by omega, by go_num, rfl, hown6, (hM6.get 0 rfl).lt, hM6⟩
      case measure => simp [intOf]; omega
    · obtain rfl : j = m := by omega
      have He := Lib.hid (show errM N (j : Int) = 0 by rw [Hem.out, if_neg (by omega)])
      have hud := Tryd.underlying27
      have hsj : (Tryd.prog.info? 27).map (·.size) = some (drC s (N + j)).toList.length := by simpa using Hsj.out
      have hkeep : ∀ wx : World, Below wr.heap.size wr wx → wx.rangeAt w.heap.size 0 (drC s (N + j)).toList := fun wx hb => ((hM.get 1 rfl).call hb).range
      have hM9 := hM.drew
      have hown9 := own_below hown (c_drew (c_refl _))
      have Hzs := Lib.hid (show (#[.int .u8 0, .int .u8 0, .int .u8 0, .int .u8 0, .int .u8 0, .int .u8 0, .int .u8 0, .int .u8 0, .int .u8 0, .int .u8 0, .int .u8 0, .int .u8 0, .int .u8 0, .int .u8 0, .int .u8 0, .int .u8 0, .int .u8 0, .int .u8 0, .int .u8 0, .int .u8 0, .int .u8 0, .int .u8 0, .int .u8 0, .int .u8 0, .int .u8 0, .int .u8 0, .int .u8 0, .int .u8 0, .int .u8 0, .int .u8 0, .int .u8 0, .int .u8 0, .int .u64 0] : Array Value).size = (drC s (N + j)).size by rw [drC_size _ Hs.out]; rfl)
      have Hon := Lib.hid (one_dr s (N + j))
      go_wp2_with fail
      refine beginT (fun wx => wx.rangeAt w.heap.size 0 (drC s (N + j)).toList) 5 (by kernel_rfl) ?_
      have hS := hkeep _ (c_drew (c_refl _))
      refine takeD 0 (some 46) (.slice A j c) rfl rfl (by kernel_rfl) (by kernel_rfl) (by kernel_rfl) (by kernel_rfl) (fun _ _ _ h => h) (Or.inl ⟨by kernel_rfl, fun wx hSw => by go_simp⟩) hS ?_
      simp only [Act.put, List.setIfInBounds_toArray, List.set_cons_zero, List.set_cons_succ]
      refine loadT 1 (some 47) 27 (.tmp 2) w.heap.size 0 (drC s (N + j)).toList rfl rfl (by kernel_rfl) (by kernel_rfl) (by kernel_rfl) (by kernel_rfl) rfl (by kernel_rfl) rfl (fun wx hSw => hSw) hud rfl hsj (fun _ _ _ h => h) hS ?_
      simp only [Act.put, List.setIfInBounds_toArray, List.set_cons_zero, List.set_cons_succ, Array.toArray_toList]
      refine oneT 2 (by kernel_rfl) rfl (fun K hK => ?_)
      go_simp
      refine hK.out _ _ (fun _ => hkeep _ (c_drew (c_refl _))) ?_
      clear hK K
      have q1 : w.heap.size ≠ w.heap.size + 1 := by omega
      refine oneT 3 (by kernel_rfl) rfl (fun K hK => ?_)
      refine step_store_row rfl 27 (.tmp 5) (.tmp 47) rfl (w.heap.size + 1) (drC s (N + j)) rfl rfl 27 _ (hM9.get 0 rfl) Hsj.out Hzs.out Hon.out ?_
      refine hK.out _ _ (fun _ => ((hM9.get 1 rfl).rowFar q1 _).range) ?_
      clear hK K
      refine oneT 4 (by kernel_rfl) rfl (fun K hK => ?_)
      go_simp
      refine hK.out _ _ (fun _ => ((hM9.get 1 rfl).rowFar q1 _).range) ?_
      clear hK K
      refine doneT (by kernel_rfl) ?_ _
      go_wp2_with fail
      exact bodyPost_ret (results_tcT rfl _ _ (w.heap.size + 1) 27 (drC s (N + j)) _ rfl ((hM9.get 0 rfl).row _) Tryd.underlying27 rfl Hsj.out) rfl (Hpost.out _ _ (below_setRow hM9.old (by omega) _) (.inr ⟨He.out, _, rfl, own_base (own_row hown9 (g' := w.heap.size + 1) (fun g hg => by have := (hown9.lt g hg).1; omega) _) (by omega)⟩))

end Go.Proofs.YtgjeamapgdakcaaDoor

/-
  THE WALK of DrawEnds (coterielaw09) at the program's own New, Check, Next, Many and Fork.
-/
set_option linter.unusedVariables false
namespace Go.Proofs.YtgjeamapgdakcaaDoor
open Go.RowKit

theorem walk_DrawEnds (s : List UInt8) (N : Nat) (w : World) (hs : s.length = 32) (hb : N < 18446744073709551616) (hT : CTab w) :
    Calls Tryd.prog 5 #[.agg (keyC s), .int .u64 (N : Int)] w fun e w' => e = .returned (.bool true) ∧ Below w.heap.size w w' :=
  walkH_DrawEnds PDNew PDCheck PDNext s N w hs hb hT

end Go.Proofs.YtgjeamapgdakcaaDoor

