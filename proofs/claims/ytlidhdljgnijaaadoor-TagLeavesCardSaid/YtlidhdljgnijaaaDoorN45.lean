import Derived.Test.YtlidhdljgnijaaaDoorN43
import Derived.Test.YtlidhdljgnijaaaDoorN44
import Derived.Test.YtlidhdljgnijaaaDoorN37
import Derived.Laws.Cover3
import Derived.Test.YtlidhdljgnijaaaDoorN39
import Derived.Test.YtlidhdljgnijaaaDoorN33
/-
  CONTRACT of the program's tag.Read.
-/
set_option linter.unusedVariables false
namespace Go.Proofs.YtlidhdljgnijaaaDoor
open Go.RowKit Go.Shelf

attribute [local go_sem] Oper.semAt_some

theorem step_append_kyT {P : Program} {w : World} {ops : Array Oper} {o : Oper} {a : Act} {K : Act → World → Prop} {Q : Exit → Act → World → Prop} {E : Prop} (hgd : Region.wanted o (yielded ops a.tmps) = true) (dst : Option Tmp) (hd : o.dst = dst) (s x : Operand) (t : TypeId)
    (ho : o.op = .call { callee := .builtin .append, args := #[s, x], argTypes := #[t, t] })
    (base : Nat) (e : TypeId) (i : TypeInfo) (z : Value) (size bytes : Nat) (ht : P.underlying t = some (.slice e)) (hi : P.info? e = some i) (hz : i.zero = some z)
    (hsize : i.size = size) (hby : i.bytes = bytes) (hzs : z.cells.size = size) (hs0 : 0 < size)
    (v : Value) (n : Nat) (xs : List Value) (hs : a.eval s = v) (hown : w.ownsRow base e size v n xs)
    (B : Nat) (A : Option Addr) (m c : Nat) (news : List Value) (hx : a.eval x = .slice A m c) (hr : Rd w B A (m * size) news) (h1 : ∀ u ∈ news, u.oneCell' = true)
    (h63 : n + m ≤ maxLen) (hbytes : (n + m) * bytes ≤ 140737488355328) (hbase : base ≤ w.heap.size)
    (h : ∀ v' w', w'.ownsRow base e size v' (n + m) (xs ++ news) → w.grownBy w' v.ownBlock → (v'.ownBlock = v.ownBlock ∨ v'.ownBlock = some w.heap.size) → K (a.put dst v') w') : if Region.wanted o (yielded ops a.tmps) = true then Oper.wp P o a w K Q else E := by
  subst hd
  rw [if_pos hgd]
  obtain ⟨v', w', hrun, h2, h3, h4⟩ := run_append_ky (P := P) w base t o.type e i z size bytes ht hi hz hsize hby hzs hs0 v n xs hown B A m c news hr h1 h63 hbytes hbase
  unfold Oper.wp execOp
  simp only [ho, resolve, invoke, builtin, Sem.run_bind, Sem.run_pure, Result.andThen_ok, List.map_toArray, List.map_cons, List.map_nil, hs, hx, hrun]
  exact h v' w' h2 h3 h4
theorem range_keep {w w' : World} {b o : Nat} {cs : List Value} (h : w.rangeAt b o cs) (hb : w'.heap[b]? = w.heap[b]?) : w'.rangeAt b o cs := fun j v hv => (World.cell?_of_block hb).trans (h j v hv)
theorem range_rd {w : World} {B b o n : Nat} {cs : List Value} (h : Rd w B (some ⟨b, o, none⟩) n cs) (hn : 0 < n) : w.rangeAt b o cs ∧ b < B := by
  obtain ⟨b', o', e, hlt, hc⟩ := h.pos hn
  injection e with e
  injection e with e1 e2
  subst e1
  subst e2
  exact ⟨fun j v hv => hc j v hv, hlt⟩
/-- key i from place q on -/
def ptI (l : List UInt8) (q i : Nat) : List UInt8 := (l.drop (q + 32 * i)).take 32
theorem pts_all (l : List UInt8) (q : Nat) : ∀ m, (List.finRange m).flatMap (fun x => ptI l q x.1) = (l.drop q).take (m * 32) := by
  intro m
  have h : ∀ m, (List.range m).flatMap (ptI l q) = (l.drop q).take (m * 32) := by
    intro m
    induction m with
    | zero => simp
    | succ m ih => rw [List.range_succ, List.flatMap_append, ih, Nat.succ_mul, List.take_add, List.drop_drop, List.flatMap_cons, List.flatMap_nil, List.append_nil, ptI, Nat.mul_comm m 32]
  rw [← h m, ← finRange_valQ, List.flatMap_map]
/-- what stands between two rounds -/
structure RdS (l : List UInt8) (q m g gS gT n0 B0 : Nat) (kind : Int) (Ai : Option Addr) (ni ci : Nat) (Al : Option Addr) (nl cl : Nat) (ids : List Int) (ll : List (List Int)) (w : World) (pre : List (Fin m)) (W : World) : Prop where
  out : ∃ A c, RowC W gT 28 (tgV kind Ai ni ci Al nl cl A pre.length c) ∧ W.ownsRow (gT + 1) 36 32 (.slice A pre.length c) pre.length ((pre.flatMap (fun x => ptI l q x.1)).map bv) ∧ ∀ z, (Value.slice A pre.length c).ownBlock = some z → n0 ≤ z
  res : RowC W g 28 (tgV 0 none 0 0 none 0 0 none 0 0)
  sh : ShN B0 W gS Ai ni ci Al nl cl ids ll
  size : n0 ≤ W.heap.size
  bel : Below w.heap.size w W
theorem RdS.turn {l : List UInt8} {q m g gS gT n0 B0 : Nat} {kind : Int} {Ai : Option Addr} {ni ci : Nat} {Al : Option Addr} {nl cl : Nat} {ids : List Int} {ll : List (List Int)} {w : World} {pre : List (Fin m)} {W W' : World} {row : Option Nat} (h : RdS l q m g gS gT n0 B0 kind Ai ni ci Al nl cl ids ll w pre W) (hg : W.grownBy W' row) (hr : ∀ r, row = some r → n0 ≤ r ∧ ∃ o : Obj, W.heap[r]? = some o ∧ o.isCells = false) (h1 : gS ≤ n0) (h2 : gT < n0) (h3 : w.heap.size ≤ n0) (h4 : g < n0) : RdS l q m g gS gT n0 B0 kind Ai ni ci Al nl cl ids ll w pre W' := by
  have hs := h.size
  have hk : ∀ x, x < n0 → W'.heap[x]? = W.heap[x]? := fun x hx => hg.block x (by omega) (fun e => by have := (hr x e.symm).1; omega)
  obtain ⟨A, c, hb, ho, hz⟩ := h.out
  exact ⟨⟨A, c, hb.of (hk _ h2), own_turnQ ho hg (fun r e => (hr r e).2), hz⟩, h.res.of (hk _ h4), h.sh.below ((Below.refl gS W).grown hg (by omega) (fun r e => by have := (hr r e).1; omega)), Nat.le_trans hs hg.size,
    h.bel.grown hg (by omega) (fun r e => by have := (hr r e).1; omega)⟩

theorem lvsL_end {l : List UInt8} : ∀ (n p : Nat) (sh : Bool), p ≤ l.length → (lvsL l n p sh).2.1 ≤ l.length
  | 0, p, sh, h => by rw [lvsL]; exact h
  | n + 1, p, sh, h => by
    rw [lvsL]
    split
    · exact h
    · exact lvsL_end n _ _ (numsL_le (l := l) 1 (numV l p 2) (numP l p 2 sh) (numS l p 2 sh) (numP_le h)).1
theorem idsQ_le {l : List UInt8} {p : Nat} (h : p ≤ l.length) : (idsQ l p).2.1 ≤ l.length ∧ (idsQ l p).1.length ≤ 65535 := by
  have h1 := numsL_le (l := l) 4 (numV l p 2) (numP l p 2 false) (numS l p 2 false) (numP_le h)
  have h2 := numV_lt4 l p (wd := 2) (by omega)
  exact ⟨h1.1, by have := h1.2; rw [idsQ]; omega⟩
theorem lvsQ_le {l : List UInt8} {p : Nat} (h : p ≤ l.length) : (lvsQ l p).2.1 ≤ l.length ∧ ∀ x ∈ (lvsQ l p).1, x.length ≤ 65535 :=
  ⟨lvsL_end _ _ _ (numP_le (idsQ_le h).1), lvsL_le l _ _ _ (numP_le (idsQ_le h).1)⟩
theorem build_tg (kv : Int) (Ai : Option Addr) (ni ci : Nat) (Al : Option Addr) (nl cl : Nat) (W : World) : (Instr.build 28 #[(0, .int .i64 kv), (1, .agg (shV Ai ni ci Al nl cl))]).run Tryd.prog W = .ok (.agg (tgV kv Ai ni ci Al nl cl none 0 0)) W := by kernel_rfl
set_option maxRecDepth 100000 in
set_option maxHeartbeats 8000000 in
theorem PRead13 (Ab : Option Addr) (nb cb : Nat) (l : List UInt8) (d : Int) (w : World) (hr : Rd w w.heap.size Ab nb (l.map bv)) (hnc : nb ≤ cb) (hcm : cb ≤ maxLen) (hn : nb ≤ 1000000) (hd1 : -9223372036854775808 ≤ d) (hd2 : d ≤ 9223372036854775807) :
    Calls Tryd.prog 25 #[.slice Ab nb cb, .int .i64 d] w (ReadPost w l d) := by
  obtain ⟨iK, hiK, hzK, hsK, hbK⟩ := info_parts infoKeyK
  have hl : l.length = nb := by have := hr.len; rwa [List.length_map] at this
  have Hl := Lib.hid hl
  have hM := (Ms.nil w).box 28 (tgV 0 none 0 0 none 0 0 none 0 0)
  have hq0 := fun wx (hb : Below w.heap.size w wx) => TakeNum_any Ab nb cb l d 1 wx (by omega) hnc ((hr.below hb).more hb.size)
  have hts := fun wx (hb : Below w.heap.size w wx) p (hp : p ≤ nb) => PTakeShape Ab nb cb l p wx ((hr.below hb).more hb.size) hnc hcm hn hp
  have Hbad := Lib.hid (show ∀ w' er, er = readE l d → er ≠ 0 → Below w.heap.size w w' → ReadPost w l d (.returned (.tuple #[.agg (tgV 0 none 0 0 none 0 0 none 0 0), .int .i64 0, .int .i64 er])) w' from fun w' er h1 h2 h3 => ⟨h3, .inl ⟨by rw [← h1]; exact h2, by rw [h1]⟩⟩)
  have Hgood := Lib.hid (show ∀ w' Ai ni ci Al nl cl Ap cp, readE l d = 0 → Below w.heap.size w w' → TgR w' w'.heap.size Ai ni ci Al nl cl (idsR l d.toNat).1 (lvsR l d.toNat).1 Ap (manyR l d.toNat) cp (ptsR l d.toNat) → ReadPost w l d (.returned (.tuple #[.agg (tgV (kindR l d.toNat) Ai ni ci Al nl cl Ap (manyR l d.toNat) cp), .int .i64 (readN l d), .int .i64 0])) w' from fun w' Ai ni ci Al nl cl Ap cp h1 h2 h3 => ⟨h2, .inr ⟨h1, _, _, _, _, _, _, _, _, rfl, h3⟩⟩)
  generalize ReadPost w l d = PO at *
  refine (callsIn_wide (n := 5)).1 ?_
  refine callsIn_of_wp_marks Tryd.func25 rfl trivial ?_ rfl
  simp only [Tryd.ntmps25, List.size_toArray, List.length_cons, List.length_nil, Nat.reduceAdd, Nat.reduceSub, Array.replicate_succ, Array.replicate_zero, List.push_toArray, List.append_toArray, List.nil_append, List.cons_append]
  refine wpIn_wide.2 ?_
  go_upto_region 1 with fail
  try simp only [Act.put]
  obtain ⟨g, hg⟩ : ∃ g, g = w.heap.size := ⟨_, rfl⟩
  rw [← hg] at hM ⊢
  refine wp_gen (fun wx => Ms w wx [(g, 28, tgV 0 none 0 0 none 0 0 none 0 0)]) hM ?_
  have hwg : w.heap.size ≤ g := by omega
  clear hM hg
  rintro w0 hM0
  have hw0 := (hM0.get 0 rfl).lt
  have hq := hq0 w0 hM0.old
  clear hq0
  by_cases hk : tnE l.length d 1 = 0
  rotate_left
  · have HE : tnE l.length d 1 = readE l d := by
      rw [readE]
      by_cases hd : d < 0 ∨ (l.length : Int) < d
      · rw [if_pos hd, tnE, if_pos (by omega)]
      · rw [if_neg hd]
        have h1 : tnE l.length d 1 = 2 := by
          rw [tnE, if_neg (by omega)] at hk ⊢
          split
          · rfl
          · next h => rw [if_neg h] at hk; exact absurd rfl hk
        have h2 : l.length < d.toNat + 1 := by
          rw [tnE, if_neg (by omega)] at hk
          split at hk
          · omega
          · exact absurd rfl hk
        have hs : numS l d.toNat 1 false = true := by rw [numS, Bool.false_or]; exact decide_eq_true h2
        have h3 : (lvsR l d.toNat).2.2 = true := by
          rw [lvsR, idsR, hs, show ∀ q wd, numS l q wd true = true from fun _ _ => rfl, numsL_true]
          show (lvsL l _ _ (numS l _ _ true)).2.2 = true
          rw [show ∀ q wd, numS l q wd true = true from fun _ _ => rfl, lvsL_true]
        rw [h1, if_pos h3]
    have hv : tnV l d 1 = 0 := by rw [tnV, if_neg hk]
    have hn2 : tnN l.length d 1 = 0 := by rw [tnN, if_neg hk]
    have hrow := hM0.get 0 rfl
    have hb := below_setRow hM0.old hwg (tgV 0 none 0 0 none 0 0 none 0 0)
    obtain ⟨er, her⟩ : ∃ er, er = tnE l.length d 1 := ⟨_, rfl⟩
    rw [← her] at HE hk
    have HF := Lib.hid (Hbad.out _ er HE hk hb)
    have her2 : er = 1 ∨ er = 2 := by
      rw [her, tnE] at hk ⊢
      split
      · exact .inl rfl
      · next h =>
        rw [if_neg h] at hk
        split
        · exact .inr rfl
        · next h2 => rw [if_neg h2] at hk; exact absurd rfl hk
    have Her := Lib.hid her
    clear HE hk her hM0 hts
    go_wp2_with fail
    refine hq.mono ?_
    rintro e w1 ⟨he', hw⟩
    subst hw
    rw [← Her.out, hv, hn2] at he'
    subst he'
    clear hq hv hn2
    rcases her2 with rfl | rfl <;> (
      go_wp2_with ((with_reducible show wpList _ _ _ (⟨none, Op.store 28 _ _, _, _, _, _⟩ :: _) _ _); refine wpList_store_row rfl 28 (.tmp 4) _ rfl g (tgV 0 none 0 0 none 0 0 none 0 0) rfl rfl 28 _ hrow tgInfo2 rfl (by simp [tgV, Value.oneCell']) ?_)
      refine ⟨_, results_c2 rfl _ _ g 28 (tgV 0 none 0 0 none 0 0 none 0 0) _ rfl (hrow.row _) Tryd.underlying28 rfl tgInfo2, ?_⟩
      exact HF.out)
  have hd : ¬ (d < 0 ∨ (l.length : Int) < d) := fun h => by rw [tnE, if_pos (by omega)] at hk; cases hk
  obtain ⟨a, rfl⟩ : ∃ a : Nat, d = (a : Int) := ⟨d.toNat, by omega⟩
  have ha1 : a + 1 ≤ nb := by
    rw [tnE, if_neg (by omega)] at hk
    split at hk
    · cases hk
    · omega
  have hv : tnV l (a : Int) 1 = numV l a 1 := by
    rw [tnV, if_pos hk, numV, if_pos (by omega)]
    simp
  have hn2 : tnN l.length (a : Int) 1 = ((a + 1 : Nat) : Int) := by rw [tnN, if_pos hk]; simp
  have hkv : numV l a 1 < 256 := numV_lt4 l a (wd := 1) (by omega)
  have Hd := Lib.hid hd
  have Hkd := Lib.hid (show kindR l a = ((numV l a 1 : Nat) : Int) from rfl)
  have HidQ := Lib.hid (show idsR l a = idsQ l (a + 1) by
    rw [idsR, idsQ, show numS l a 1 false = false by rw [numS, Bool.false_or]; exact decide_eq_false (by omega), show numP l a 1 false = a + 1 by rw [numP, if_pos ⟨by omega, rfl⟩]])
  have HlvQ := Lib.hid (show lvsR l a = lvsQ l (a + 1) by rw [lvsR, lvsQ, HidQ.out])
  generalize numV l a 1 = kv at *
  obtain ⟨p1, hp1⟩ : ∃ p1, p1 = a + 1 := ⟨_, rfl⟩
  have hnb0 : 0 < nb := by omega
  rw [← hp1] at ha1 hn2 HidQ HlvQ
  clear hp1 hd
  go_wp2_with fail
  refine hq.mono ?_
  rintro e w1 ⟨he', hw⟩
  subst hw
  rw [hk, hv, hn2] at he'
  subst he'
  clear hq hv hn2 hk
  go_wp2_with fail
  refine (hts w0 hM0.old p1 ha1).mono ?_
  rintro e w2 ⟨hb2, ⟨hbad, rfl⟩ | ⟨hok, Ai, ni, ci, Al, nl, cl, rfl, hSN⟩⟩
  · have HE := Lib.hid (show (2 : Int) = readE l (a : Int) by rw [readE, if_neg Hd.out, Int.toNat_natCast, HlvQ.out, if_pos hbad])
    have hM2 := hM0.call hb2
    have hM3 := hM2.put 25 #[.slice none 0 0, .slice none 0 0] (shV none 0 0 none 0 0)
    have hrow := hM3.get 1 rfl
    have hb := below_setRow hM3.old hwg (tgV 0 none 0 0 none 0 0 none 0 0)
    clear hM0 hM2 hM3 hb2 hbad hts
    go_wp2_with (first
      | ((with_reducible show wpList _ _ _ (⟨none, Op.store 25 _ _, _, _, _, _⟩ :: _) _ _); refine wpList_store_row rfl 25 (.tmp 9) (.tmp 29) rfl w2.heap.size (shV none 0 0 none 0 0) rfl rfl 25 _ (RowC.new _ _ _) shapeInfo2 rfl (by simp [shV, Value.oneCell']) ?_)
      | ((with_reducible show wpList _ _ _ (⟨none, Op.store 28 _ _, _, _, _, _⟩ :: _) _ _); refine wpList_store_row rfl 28 (.tmp 4) _ rfl g (tgV 0 none 0 0 none 0 0 none 0 0) rfl rfl 28 _ hrow tgInfo2 rfl (by simp [tgV, Value.oneCell']) ?_))
    refine ⟨_, results_c2 rfl _ _ g 28 (tgV 0 none 0 0 none 0 0 none 0 0) _ rfl (hrow.row _) Tryd.underlying28 rfl tgInfo2, ?_⟩
    exact Hbad.out _ 2 HE.out (by decide) hb
  have hM2 := hM0.call hb2
  obtain ⟨gS, hgS⟩ : ∃ gS, gS = w2.heap.size := ⟨_, rfl⟩
  have hMs := hM2.put 25 #[.slice none 0 0, .slice none 0 0] (shV Ai ni ci Al nl cl)
  have hSN3 := hSN.below (below_setRow (d_al w2 (.cells #[.slice none 0 0, .slice none 0 0] 25)) (Nat.le_refl _) (shV Ai ni ci Al nl cl))
  have hz3 : ((w2.alloc (.cells #[.slice none 0 0, .slice none 0 0] 25)).setRow w2.heap.size (shV Ai ni ci Al nl cl)).heap.size = gS + 1 := by simp [World.setRow, hgS]
  have hgS2 : g < gS := by have := (hM2.get 0 rfl).lt; omega
  obtain ⟨q, hq⟩ : ∃ q, q = (lvsQ l p1).2.1 := ⟨_, rfl⟩
  rw [← hq]
  have Hq := Lib.hid (show lvsQ l p1 = ((lvsQ l p1).1, (q, false)) by
    rw [hq, ← hok])
  have hqn : q ≤ nb := by rw [hq]; have := (lvsQ_le (l := l) (p := p1) (by rw [hl]; exact ha1)).1; omega
  clear hq hok
  go_upto_region 7 with ((with_reducible show wpList _ _ _ (⟨none, Op.store 25 _ _, _, _, _, _⟩ :: _) _ _); refine wpList_store_row rfl 25 (.tmp 9) (.tmp 29) rfl w2.heap.size (shV Ai ni ci Al nl cl) rfl rfl 25 _ (RowC.new _ _ _) shapeInfo2 rfl (by simp [shV, Value.oneCell']) ?_)
  try simp only [Act.put]
  rw [← hgS] at hSN3 hMs hz3 ⊢
  refine wp_gen (fun wx => (wx.heap.size = gS + 1 ∧ ShN w0.heap.size wx gS Ai ni ci Al nl cl (idsQ l p1).1 (lvsQ l p1).1) ∧ Ms w wx [(gS, 25, shV Ai ni ci Al nl cl), (g, 28, tgV 0 none 0 0 none 0 0 none 0 0)]) ⟨⟨hz3, hSN3⟩, hMs⟩ ?_
  clear hMs hSN3 hz3 hSN hM2 hM0 hb2 hgS hts
  clear w2
  rintro w3 ⟨⟨hz3, hSN3⟩, hM3⟩
  have z1 : IntKind.i64.wrap (kv : Int) = (kv : Int) := by rw [IntKind.wrap_i64]; omega
  have hMt := hM3.put 28 #[.int .i64 0, .slice none 0 0, .slice none 0 0, .slice none 0 0] (tgV (kv : Int) Ai ni ci Al nl cl none 0 0)
  have hSN4 := hSN3.below (below_setRow (d_al w3 (.cells #[.int .i64 0, .slice none 0 0, .slice none 0 0, .slice none 0 0] 28)) (Nat.le_refl _) (tgV (kv : Int) Ai ni ci Al nl cl none 0 0) |>.mono (by omega))
  have hz4 : ((w3.alloc (.cells #[.int .i64 0, .slice none 0 0, .slice none 0 0, .slice none 0 0] 28)).setRow w3.heap.size (tgV (kv : Int) Ai ni ci Al nl cl none 0 0)).heap.size = gS + 2 := by simp [World.setRow]; omega
  rw [hz3] at hMt hSN4 hz4
  have hrs := hM3.get 0 rfl
  have hnew : RowC (w3.alloc (.cells #[.int .i64 0, .slice none 0 0, .slice none 0 0, .slice none 0 0] 28)) (gS + 1) 28 #[.int .i64 0, .slice none 0 0, .slice none 0 0, .slice none 0 0] := RowC.mk_ _ _ _ hz3
  go_upto_region 8 with (first
    | ((with_reducible show wpList _ _ _ (⟨some 38, _, _, _, _, _⟩ :: _) _ _); refine wpList_loadC (by kernel_rfl) 25 (.tmp 9) rfl gS rfl 25 (shV Ai ni ci Al nl cl) _ hrs Tryd.underlying25 rfl shapeInfo2 ?_)
    | ((with_reducible show wpList _ _ _ (⟨some 39, _, _, _, _, _⟩ :: _) _ _); refine wpList_buildP rfl 28 #[(0, .tmp 37), (1, .tmp 38)] rfl #[(0, .int .i64 (kv : Int)), (1, .agg (shV Ai ni ci Al nl cl))] (by kernel_rfl) (tgV (kv : Int) Ai ni ci Al nl cl none 0 0) (build_tg _ _ _ _ _ _ _ _) ?_)
    | ((with_reducible show wpList _ _ _ (⟨none, Op.store 28 _ _, _, _, _, _⟩ :: _) _ _); refine wpList_store_row rfl 28 (.tmp 10) (.tmp 39) rfl (gS + 1) (tgV (kv : Int) Ai ni ci Al nl cl none 0 0) rfl rfl 28 _ hnew tgInfo2 rfl (by simp [tgV, Value.oneCell']) ?_))
  try simp only [Act.put]
  refine wp_gen (fun wx => (wx.heap.size = gS + 2 ∧ ShN w0.heap.size wx gS Ai ni ci Al nl cl (idsQ l p1).1 (lvsQ l p1).1) ∧ Ms w wx [(gS + 1, 28, tgV (kv : Int) Ai ni ci Al nl cl none 0 0), (gS, 25, shV Ai ni ci Al nl cl), (g, 28, tgV 0 none 0 0 none 0 0 none 0 0)]) ⟨⟨hz4, hSN4⟩, hMt⟩ ?_
  clear hMt hSN4 hz4 hSN3 hz3 hM3 hrs hnew
  clear w3
  rintro w4 ⟨⟨hz4, hSN4⟩, hM4⟩
  obtain ⟨ids, hids⟩ : ∃ ids, ids = (idsQ l p1).1 := ⟨_, rfl⟩
  obtain ⟨ll, hll⟩ : ∃ ll, ll = (lvsQ l p1).1 := ⟨_, rfl⟩
  rw [← hids, ← hll] at hSN4
  rw [← hll] at Hq
  have Hi := Lib.hid hids
  have Hll := Lib.hid hll
  have hwide : ∀ x ∈ ll, x.length ≤ 1000000 := fun x hx => by have := (lvsQ_le (l := l) (p := p1) (by rw [Hl.out]; exact ha1)).2 x (by rw [← hll]; exact hx); omega
  have hni6 : ni ≤ 1000000 := by have h1 := (idsQ_le (l := l) (p := p1) (by rw [Hl.out]; exact ha1)).2; rw [← hids, hSN4.sh.hni] at h1; omega
  clear hids hll
  have hr1 := tg_sh (hM4.get 0 rfl)
  have c0 := (hM4.get 0 rfl).cell (i := 0) (v := .int .i64 (kv : Int)) rfl
  have hnd := PNodes_wide (kv : Int) Ai ni ci Al nl cl ids ll w4 (hSN4.sh.more (by omega)) hwide hni6
  go_wp2_with ((with_reducible show wpList _ _ _ (⟨some 44, _, _, _, _, _⟩ :: _) _ _); refine wpList_load_midG (by kernel_rfl) 25 (.tmp 43) rfl (gS + 1) 1 rfl (shV Ai ni ci Al nl cl).toList _ hr1 Tryd.underlying25 rfl shapeInfo2 ?_)
  refine hnd.mono ?_
  rintro e w5 ⟨hb5, A8, n8, c8, rfl, hnd5⟩
  have hM5 := hM4.call hb5
  have hSN5 := hSN4.below (hb5.mono (by omega))
  have hz5 := hb5.size
  have Hn8 := Lib.hid (show n8 = manyR l a by rw [manyR, HidQ.out, HlvQ.out, Hkd.out, ← Hi.out, ← Hll.out]; exact hnd5.len.symm)
  have hn8c := hnd5.cap
  have hle8 : n8 ≤ 2000 := by
    have := nodesI_le (kv : Int) ids ll
    rw [hnd5.len] at this
    exact this
  by_cases hmb : mayB (kv : Int) ids ll = true
  rotate_left
  · have HE := Lib.hid (show (3 : Int) = readE l (a : Int) by
      rw [readE, if_neg Hd.out, if_neg (by rw [Int.toNat_natCast, HlvQ.out, Hq.out]; simp), if_pos (by rw [Int.toNat_natCast, HlvQ.out, HidQ.out, Hkd.out, ← Hi.out, ← Hll.out]; simpa using hmb)])
    have he0 : mayE (kv : Int) ids ll = 1 := by rw [mayE, if_neg hmb]
    rw [he0]
    have hrow := hM5.get 2 rfl
    have hb := below_setRow hM5.old hwg (tgV 0 none 0 0 none 0 0 none 0 0)
    clear he0 hmb hM5 hM4 hSN5 hSN4 hnd hnd5 hb5 hn8c hle8 hz5
    go_wp2_with ((with_reducible show wpList _ _ _ (⟨none, Op.store 28 _ _, _, _, _, _⟩ :: _) _ _); refine wpList_store_row rfl 28 (.tmp 4) _ rfl g (tgV 0 none 0 0 none 0 0 none 0 0) rfl rfl 28 _ hrow tgInfo2 rfl (by simp [tgV, Value.oneCell']) ?_)
    refine ⟨_, results_c2 rfl _ _ g 28 (tgV 0 none 0 0 none 0 0 none 0 0) _ rfl (hrow.row _) Tryd.underlying28 rfl tgInfo2, ?_⟩
    exact Hbad.out _ 3 HE.out (by decide) hb
  have he0 : mayE (kv : Int) ids ll = 0 := by rw [mayE, if_pos hmb]
  rw [he0]
  clear he0
  obtain ⟨t8, ht8⟩ : ∃ t8, t8 = n8 * 32 := ⟨_, rfl⟩
  obtain ⟨r, hre⟩ : ∃ r, r = q + t8 := ⟨_, rfl⟩
  have z2 : IntKind.i64.wrap ((n8 : Int) * 32) = (t8 : Int) := by rw [IntKind.wrap_i64]; omega
  have z3 : IntKind.i64.wrap ((q : Int) + (t8 : Int)) = (r : Int) := by rw [IntKind.wrap_i64]; omega
  have Hr8 := Lib.hid (show r = q + n8 * 32 by omega)
  have hrb : q ≤ r ∧ r ≤ 1064000 := by omega
  have hrb1 := hrb.1
  have hr32 : r - q = t8 := by omega
  by_cases hsh : nb < r
  · have HE := Lib.hid (show (2 : Int) = readE l (a : Int) by
      rw [readE, if_neg Hd.out, if_neg (by rw [Int.toNat_natCast, HlvQ.out, Hq.out]; simp), if_neg (by rw [Int.toNat_natCast, HlvQ.out, HidQ.out, Hkd.out, ← Hi.out, ← Hll.out]; simpa using hmb), if_pos (by rw [Int.toNat_natCast, HlvQ.out, Hq.out, ← Hn8.out]; show l.length < q + n8 * 32; have := Hr8.out; have := Hl.out; omega)])
    have hrow := hM5.get 2 rfl
    have hb := below_setRow hM5.old hwg (tgV 0 none 0 0 none 0 0 none 0 0)
    have z4 : (nb : Int) < (r : Int) := by omega
    clear hmb hM5 hM4 hSN5 hSN4 hnd hnd5 hb5 hn8c hle8 hz5 ht8 hre
    go_wp2_with ((with_reducible show wpList _ _ _ (⟨none, Op.store 28 _ _, _, _, _, _⟩ :: _) _ _); refine wpList_store_row rfl 28 (.tmp 4) _ rfl g (tgV 0 none 0 0 none 0 0 none 0 0) rfl rfl 28 _ hrow tgInfo2 rfl (by simp [tgV, Value.oneCell']) ?_)
    refine ⟨_, results_c2 rfl _ _ g 28 (tgV 0 none 0 0 none 0 0 none 0 0) _ rfl (hrow.row _) Tryd.underlying28 rfl tgInfo2, ?_⟩
    exact Hbad.out _ 2 HE.out (by decide) hb
  have hsh2 : r ≤ nb := by omega
  have z4 : ¬ (nb : Int) < (r : Int) := by omega
  clear hsh ht8 hre hnd hM4 hSN4 hb5
  go_upto_region 14 with fail
  obtain ⟨ba, o, rfl, hba, hcell⟩ := hr.pos (by omega)
  have hrp : ∀ (W : World), Below w.heap.size w W → ∀ i, q + 32 * i + 32 ≤ nb → Rd W W.heap.size (some ⟨ba, o + q + 32 * i, none⟩) 32 ((ptI l q i).map bv) := fun W hb i hi => ⟨by rw [List.length_map, ptI, List.length_take, List.length_drop]; omega, fun _ => ⟨ba, _, rfl, Nat.lt_of_lt_of_le hba hb.size, fun z u hu => by
    rw [List.getElem?_map, ptI, List.getElem?_take] at hu
    split at hu
    · rw [List.getElem?_drop, ← List.getElem?_map] at hu
      rw [World.cell?_of_block (hb.block ba hba), show o + q + 32 * i + z = o + (q + 32 * i + z) by omega]
      exact hcell _ _ hu
    · cases hu⟩⟩
  have hcase : ∃ A3 : Option Addr, (cb = q ∧ r = q ∧ t8 = 0 ∧ A3 = some ⟨ba, o, none⟩) ∨ (¬ cb = q ∧ A3 = some ⟨ba, o + q, none⟩) := by
    by_cases h : cb = q
    · exact ⟨_, .inl ⟨h, by omega, by omega, rfl⟩⟩
    · exact ⟨_, .inr ⟨h, rfl⟩⟩
  obtain ⟨A3, hcase⟩ := hcase
  have HA3 := Lib.hid (show 0 < 32 * n8 → A3 = some ⟨ba, o + q, none⟩ from fun h0 => by
    rcases hcase with ⟨h1, h3, h4, h2⟩ | ⟨h1, h2⟩
    · have := Hr8.out; omega
    · exact h2)
  have i1 : (0 : Int) ≤ (q : Int) := by omega
  have i2 : (q : Int) ≤ (r : Int) := by omega
  have i3 : (r : Int) ≤ (cb : Int) := by omega
  obtain ⟨cq, hcq⟩ : ∃ cq, cb - q = cq := ⟨_, rfl⟩
  have hck := ChunkQ_any A3 t8 cq 32 w5 (by omega)
  rw [show ((32 : Nat) : Int) = 32 from rfl] at hck
  obtain ⟨h5, hh5⟩ : ∃ h5, h5 = w5.heap.size := ⟨_, rfl⟩
  have hM6 := (hM5.box 41 #[.slice A3 t8 cq]).box 3 #[.int .i64 (32 : Int)]
  have hal6 := (d_al w5 (.cells #[.slice A3 t8 cq] 41)).trans ((d_al (w5.alloc (.cells #[.slice A3 t8 cq] 41)) (.cells #[.int .i64 (32 : Int)] 3)).mono (by simp))
  have hgT5 : gS + 1 < h5 := by have := (hM5.get 0 rfl).lt; omega
  have hSN6 := hSN5.below (hal6.mono (by omega))
  have hz6 : ((w5.alloc (.cells #[.slice A3 t8 cq] 41)).alloc (.cells #[.int .i64 (32 : Int)] 3)).heap.size = h5 + 2 := by simp only [World.size_alloc]; omega
  simp only [World.size_alloc] at hM6
  rw [← hh5] at hM6 hck
  have Hcq := Lib.hid (show 32 * n8 ≤ cq by have := Hr8.out; omega)
  rename_i K0 hK0
  refine cutP (fun a0 a' w' => a' = (((((a0.put (some 61) (.slice (some ⟨ba, o, none⟩) nb cb)).put (some 62) (.int .i64 (q : Int))).put (some 63) (.int .i64 (r : Int))).put (some 64) (.slice A3 t8 cq)).put (some 65) (.func (.func 80) #[] #[.pointer (some ⟨h5, 0, none⟩), .pointer (some ⟨h5 + 1, 0, none⟩)])) ∧
    (w'.heap.size = h5 + 2 ∧ ShN w0.heap.size w' gS Ai ni ci Al nl cl ids ll) ∧ Ms w w' [(h5 + 1, 3, #[.int .i64 (32 : Int)]), (h5, 41, #[.slice A3 t8 cq]), (gS + 1, 28, tgV (kv : Int) Ai ni ci Al nl cl none 0 0), (gS, 25, shV Ai ni ci Al nl cl), (g, 28, tgV 0 none 0 0 none 0 0 none 0 0)]) ?region ?behind
  case region =>
    clear hK0 K0 hcell hrp hM5 hSN5 hnd5 hal6 hh5
    rcases hcase with ⟨h1, h3, h4, h2⟩ | ⟨h1, h2⟩
    · subst h2
      subst h3
      subst h4
      obtain rfl : cq = 0 := by omega
      go_wp2_with fail
      refine hck.mono ?_
      rintro e w6 ⟨he6, hw6⟩
      subst he6
      rw [← hw6] at hM6 hSN6 hz6
      clear hck hw6
      go_wp2_with fail
    · subst h2
      go_wp2_with fail
      refine hck.mono ?_
      rintro e w6 ⟨he6, hw6⟩
      subst he6
      rw [← hw6] at hM6 hSN6 hz6
      clear hck hw6
      go_wp2_with fail
  case behind =>
    rintro a' w6 ⟨rfl, ⟨hz6, hSN6⟩, hM6⟩
    try simp only [Act.put, List.setIfInBounds_toArray, List.set_cons_zero, List.set_cons_succ]
    refine hK0 _ _ ?_
    clear hK0 hM5 hSN5 hnd5 hal6 hck hcell hh5 hcq
    have hSt : RdS l q n8 g gS (gS + 1) (h5 + 2) w0.heap.size (kv : Int) Ai ni ci Al nl cl ids ll w [] w6 :=
      ⟨⟨none, 0, hM6.get 2 rfl, World.ownsRow_nil _ _ _ _, fun z hz => by simp [Value.ownBlock] at hz⟩, hM6.get 4 rfl, hSN6, Nat.le_of_eq hz6.symm, hM6.old⟩
    have Hz6 := Lib.hid hz6
    have hbS := (hM6.get 1 rfl).cell (i := 0) rfl
    have hbN := (hM6.get 0 rfl).cell (i := 0) rfl
    clear hSN6 hM6 hz6
    go_wp2_with fail
    try rw [show decide (nb < r) = false from decide_eq_false (by omega)]
    refine rangeQ 5 (by decide) (d := 13) (gf := 80) (lb := #[.pointer (some ⟨h5, 0, none⟩), .pointer (some ⟨h5 + 1, 0, none⟩)]) rfl (enters_of Tryd.func80 (by kernel_rfl) rfl)
      (v := fun x : Fin n8 => chunkQ ba (o + q) 32 x.1) (Kp := KpQ h5 (h5 + 1)) (S := fun ys => ys = List.finRange n8) (Sp := fun _ => True) (N := n8) ?seq (fun h k => h.trans k) (fun W l o o' hl _ _ _ => KpQ.putObj (B := w6.heap.size) (by have := Hz6.out; omega) (by have := Hz6.out; omega) W l o o' hl)
      (RdS l q n8 g gS (gS + 1) (h5 + 2) w0.heap.size (kv : Int) Ai ni ci Al nl cl ids ll w) (fun s W W' row hs hg hr => hs.turn hg (fun r e => ⟨by have := (hr r e).1; have := Hz6.out; omega, (hr r e).2⟩) (by omega) (by omega) (by omega) (by omega)) hSt ?assign ?body ?done
    case seq =>
      have hz7 := Hz6.out
      have e32 : t8 = 32 * n8 := by have := Hr8.out; omega
      exact chunkQ_stops 4 (by decide) h5 (h5 + 1) ba (o + q) 32 n8 cq (by omega) (by omega) (by omega) Hcq.out A3 HA3.out w6 (by omega) (by omega) (by rw [← e32]; exact hbS) hbN
    case assign =>
      intro l x W K hK
      simp only [List.setIfInBounds_toArray, List.set_cons_zero, List.set_cons_succ] at hK
      gi_wp2
      exact hK
    case body =>
      rintro lr pre x W hst hlen
      refine wpIn_block ?_
      obtain ⟨A, c, hbox, hown, hoz⟩ := hst.out
      have hx := x.2
      have hsz := hst.size
      have hqx : q + 32 * x.1 + 32 ≤ nb := by have := Hr8.out; omega
      have hrx := (hrp W hst.bel x.1 hqx)
      have hkx : (ptI l q x.1).length = 32 := by rw [ptI, List.length_take, List.length_drop, Hl.out]; omega
      have Hps := Lib.hid (show (pre ++ [x]).flatMap (fun x => ptI l q x.1) = pre.flatMap (fun x => ptI l q x.1) ++ ptI l q x.1 by simp)
      have hbel := hst.bel
      have hres := hst.res
      have hshe := hst.sh
      simp only [chunkQ]
      generalize ptI l q x.1 = ky at *
      generalize pre.flatMap (fun x => ptI l q x.1) = ps0 at *
      generalize o + q + 32 * x.1 = ox at *
      clear hbS hbN hSt hcase hrp hst
      try simp only [List.setIfInBounds_toArray, List.set_cons_zero, List.set_cons_succ]
      have hw0 : w.heap.size ≤ gS := by omega
      have hbaw := Lib.hid (show ba < w.heap.size from hba)
      have hdr : Below W.heap.size W W.drew := c_drew (c_refl _)
      have hown1 := own_below hown hdr
      have hrx1 := hrx.below hdr
      have hbox1 := hbox.drew
      have hszd : W.drew.heap.size = W.heap.size := rfl
      have hlenF : pre.length < n8 := hlen
      refine cutQ (fun a0 a' w' => ∃ A8 c8 w8, w' = w8.setCell ⟨gS + 1, 3, none⟩ (.slice A8 (pre.length + 1) c8) ∧ w8.ownsRow (gS + 1 + 1) 36 32 (.slice A8 (pre.length + 1) c8) (pre.length + 1) ((ps0 ++ ky).map bv) ∧ (W.drew.alloc (.cells (keyC ky) 36)).grownBy w8 (Value.slice A pre.length c).ownBlock ∧ ((Value.slice A8 (pre.length + 1) c8).ownBlock = (Value.slice A pre.length c).ownBlock ∨ (Value.slice A8 (pre.length + 1) c8).ownBlock = some (W.heap.size + 1))) ?region2 ?behind2
      case region2 =>
        have c1 := hbox1.cell (i := 3) (v := .slice A pre.length c) rfl
        have hky1 : W.drew.rangeAt ba ox (ky.map bv) := (range_rd hrx1 (by omega)).1
        refine beginR (fun wx : World => wx.cell? ⟨gS + 1, 3, none⟩ = some (.slice A pre.length c) ∧ wx.rangeAt ba ox (ky.map bv)) 8 (by kernel_rfl) (by kernel_rfl) (fun _ _ h => by cases h.1) ?_
        have hS := And.intro c1 hky1
        refine takeD 0 (some 67) (.pointer (some ⟨gS + 1, 3, none⟩)) rfl rfl (by kernel_rfl) (by kernel_rfl) (by kernel_rfl) (by kernel_rfl) (fun _ _ _ h => by cases h.1) (Or.inl ⟨by kernel_rfl, fun wx hSw => by go_simp⟩) hS ?_
        try simp only [Act.put, List.setIfInBounds_toArray, List.set_cons_zero, List.set_cons_succ]
        refine takeD 1 (some 68) (.slice A pre.length c) rfl rfl (by kernel_rfl) (by kernel_rfl) (by kernel_rfl) (by kernel_rfl) (fun _ _ _ h => by cases h.1) (Or.inl ⟨by kernel_rfl, fun wx hSw => by have h := hSw.1; go_simp⟩) hS ?_
        try simp only [Act.put, List.setIfInBounds_toArray, List.set_cons_zero, List.set_cons_succ]
        refine takeD 2 (some 69) (.slice (some ⟨ba, ox, none⟩) 32 32) rfl rfl (by kernel_rfl) (by kernel_rfl) (by kernel_rfl) (by kernel_rfl) (fun _ _ _ h => by cases h.1) (Or.inl ⟨by kernel_rfl, fun wx hSw => by go_simp⟩) hS ?_
        try simp only [Act.put, List.setIfInBounds_toArray, List.set_cons_zero, List.set_cons_succ]
        have hat : ∀ wx : World, (Instr.arrayAt 36 (.slice (some ⟨ba, ox, none⟩) 32 32)).run Tryd.prog wx = .ok (.pointer (some ⟨ba, ox, none⟩)) wx := fun wx => run_arrayAt (P := Tryd.prog) (w := wx) 36 5 32 (some ⟨ba, ox, none⟩) 32 32 Tryd.underlying36 (Nat.le_refl _)
        refine takeD 3 (some 70) (.pointer (some ⟨ba, ox, none⟩)) rfl rfl (by kernel_rfl) (by kernel_rfl) (by kernel_rfl) (by kernel_rfl) (fun _ _ _ h => by cases h.1) (Or.inl ⟨by kernel_rfl, fun wx hSw => by have h := hat wx; go_simp⟩) hS ?_
        try simp only [Act.put, List.setIfInBounds_toArray, List.set_cons_zero, List.set_cons_succ]
        refine loadT 4 (some 71) 36 (.tmp 70) ba ox (ky.map bv) rfl rfl (by kernel_rfl) (by kernel_rfl) (by kernel_rfl) (by kernel_rfl) rfl (by kernel_rfl) rfl (fun wx hSw => hSw.2) Tryd.underlying36 rfl (by rw [List.length_map, hkx]; kernel_rfl) (fun _ _ _ h => by cases h.1) hS ?_
        try simp only [Act.put, List.setIfInBounds_toArray, List.set_cons_zero, List.set_cons_succ]
        rw [show (ky.map bv).toArray = keyC ky from rfl]
        generalize W.drew = x0 at *
        have hfd := fold_keyK hkx
        have hks : (keyC ky).size = 32 := by rw [keyC_size, hkx]
        have hal := d_al x0 (.cells (keyC ky) 36)
        have hown2 := own_below hown1 hal
        have hbox2 := hbox1.alloc (.cells (keyC ky) 36)
        have hr2 : Rd (x0.alloc (.cells (keyC ky) 36)) (x0.heap.size + 1) (some ⟨x0.heap.size, 0, none⟩) (1 * 32) (ky.map bv) := Rd.mk_ _ _ _ rfl (by omega) (by rw [hks]) (by simp [keyC])
        have c2 := hbox2.cell (i := 3) (v := .slice A pre.length c) rfl
        have hba1 : ba < x0.heap.size := by rw [hszd]; exact (range_rd hrx1 (by omega)).2
        have hx0s : gS + 1 + 1 ≤ x0.heap.size := by omega
        have Hszd := Lib.hid hszd
        clear hszd
        have hky2 := range_keep hky1 (hal.block ba hba1)
        refine oneT 5 (by kernel_rfl) rfl (fun K hK => ?_)
        go_simp
        refine hK.out _ _ (fun _ => ⟨c2, hky2⟩) ?_
        clear hK K c1 hky1 hS
        try simp only [Act.put, List.setIfInBounds_toArray, List.set_cons_zero, List.set_cons_succ]
        refine oneT 6 (by kernel_rfl) rfl (fun K hK => ?_)
        refine step_append_kyT (by kernel_rfl) (some 73) rfl (.tmp 68) (.tmp 72) _ rfl (gS + 1 + 1) 36 iK _ 32 32 Tryd.underlying26 hiK hzK hsK hbK rfl (by omega) (.slice A pre.length c) pre.length (ps0.map bv) rfl hown2 (x0.heap.size + 1) (some ⟨x0.heap.size, 0, none⟩) 1 1 (ky.map bv) rfl hr2 (one_bv _) (by simp only [maxLen]; omega) (by omega) (by simp; omega) ?_
        intro v7 w7 hown7 hgr7 hat7
        obtain ⟨A7, c7, rfl, _, _⟩ := own_slK hown7
        have hbox7 : RowC w7 (gS + 1) 28 (tgV (kv : Int) Ai ni ci Al nl cl A pre.length c) := hbox2.of (hgr7.block (gS + 1) hbox2.lt (fun e => by have := hoz (gS + 1) e.symm; omega))
        have c7' := hbox7.cell (i := 3) (v := .slice A pre.length c) rfl
        have f7 := hbox7.frozen 3
        have hky7 : w7.rangeAt ba ox (ky.map bv) := range_keep hky2 (hgr7.block ba (by simp; omega) (fun e => by have h1 := hoz ba e.symm; have h2 := hbaw.out; omega))
        refine hK.out _ _ (fun _ => ⟨c7', hky7⟩) ?_
        clear hK K
        try simp only [Act.put, List.setIfInBounds_toArray, List.set_cons_zero, List.set_cons_succ]
        refine oneT 7 (by kernel_rfl) rfl (fun K hK => ?_)
        go_simp
        refine hK.out _ _ (fun _ => ⟨c7', hky7⟩) ?_
        clear hK K
        try simp only [Act.put, List.setIfInBounds_toArray, List.set_cons_zero, List.set_cons_succ]
        refine oneT 8 (by kernel_rfl) rfl (fun K hK => ?_)
        go_simp
        refine hK.out _ _ (fun h => absurd rfl h) ?_
        clear hK K
        refine doneT (by kernel_rfl) ?_ _
        refine ⟨rfl, A7, c7, w7, rfl, by simpa using hown7, hgr7, ?_⟩
        rcases hat7 with h | h
        · exact .inl h
        · exact .inr (by rw [h]; simp [Hszd.out])
      case behind2 =>
        rintro a' w9 ⟨A8, c8, w8, rfl, hown8, hgr8, hat8⟩
        have hbox2 := hbox1.alloc (.cells (keyC ky) 36)
        have hbox8 : RowC w8 (gS + 1) 28 (tgV (kv : Int) Ai ni ci Al nl cl A pre.length c) := hbox2.of (hgr8.block (gS + 1) hbox2.lt (fun e => by have := hoz (gS + 1) e.symm; omega))
        have hk : ∀ y, y < W.heap.size → y ≠ gS + 1 → (Value.slice A pre.length c).ownBlock ≠ some y → (w8.setCell ⟨gS + 1, 3, none⟩ (.slice A8 (pre.length + 1) c8)).heap[y]? = W.heap[y]? := fun y hy h1 h2 =>
          (Below.heap_setCell w8 ⟨gS + 1, 3, none⟩ _ y h1).trans ((hgr8.block y (by simp; omega) (fun e => h2 e.symm)).trans (heap_alloc_old W.drew _ hy))
        have hob : ∀ z, (Value.slice A pre.length c).ownBlock = some z → gS + 1 + 1 ≤ z ∧ z < W.heap.size := fun z hz => hown.lt z hz
        have hs8 : W.heap.size + 1 ≤ w8.heap.size := by have := hgr8.size; simpa [hszd] using this
        have hz8 : ∀ z, (Value.slice A8 (pre.length + 1) c8).ownBlock = some z → h5 + 2 ≤ z := fun z hz => by
          rcases hat8 with h | h
          · exact hoz z (by rw [← h]; exact hz)
          · rw [h] at hz
            injection hz with hz
            omega
        have hlow : ∀ y, y < h5 + 2 → y ≠ gS + 1 → (w8.setCell ⟨gS + 1, 3, none⟩ (.slice A8 (pre.length + 1) c8)).heap[y]? = W.heap[y]? := fun y h1 h2 => hk y (by omega) h2 (fun e => by have h5 := hoz y e; omega)
        have hown9 := own_cellT (p := ⟨gS + 1, 3, none⟩) hown8 (fun z hz => by
          show z ≠ gS + 1
          have := hz8 z hz
          omega) (.slice A8 (pre.length + 1) c8)
        have hlp : (pre ++ [x]).length = pre.length + 1 := by simp
        have hbg : Below gS W (w8.setCell ⟨gS + 1, 3, none⟩ (.slice A8 (pre.length + 1) c8)) := (((((Below.refl gS W).drew).alloc (Nat.le_trans (by omega) hsz) _).grown hgr8 (by simp [hszd]; omega) (fun z hz => by have := hob z hz; omega)).setCell (p := ⟨gS + 1, 3, none⟩) (by show gS ≤ gS + 1; omega) _)
        refine ⟨⟨by rw [World.size_setCell]; omega, fun y ob hy ho => ?_⟩, ⟨hlow _ (by omega) (by omega), hlow _ (by omega) (by omega)⟩, ?_⟩
        · have hyl := (Array.getElem?_eq_some_iff.1 hy).1
          rw [hk y hyl (fun e => by subst e; rw [hbox] at hy; cases hy; cases ho) (fun e => by
            rcases hown.2 with ⟨h0, _⟩ | ⟨gg, cap, cur, hv, _, hgg, _⟩
            · rw [h0] at e; cases e
            · rw [hv] at e
              obtain rfl : gg = y := by simpa [Value.ownBlock] using e
              rw [hgg] at hy
              cases hy
              cases ho)]
          exact hy
        · refine ⟨⟨A8, c8, by rw [hlp]; exact hbox8.set_ 3 _, by rw [hlp, Hps.out]; exact hown9, fun z hz => hz8 z (by rw [hlp] at hz; exact hz)⟩, hres.of (hlow _ (by omega) (by omega)), hshe.below hbg, by rw [World.size_setCell]; omega, ?_⟩
          exact ((hbel.drew.alloc hbel.size _).grown hgr8 (Nat.le_trans hbel.size (by simp [hszd])) (fun z hz => by have := hob z hz; omega)).setCell (p := ⟨gS + 1, 3, none⟩) (by show _ ≤ gS + 1; omega) _
    case done =>
      rintro D ys W hD rfl hst hK
      obtain ⟨A, c, hbox, hown, hoz⟩ := hst.out
      rw [List.length_finRange] at hbox hown hoz
      have hDg : h5 + 2 ≤ D := by have := Hz6.out; omega
      have hDl : D < W.heap.size := (Array.getElem?_eq_some_iff.1 hK).1
      rw [pts_all] at hown
      have Hps := Lib.hid (show ptsR l a = (l.drop q).take (n8 * 32) by rw [ptsR, HlvQ.out, Hq.out, ← Hn8.out])
      rw [← Hps.out] at hown
      have hsz := hst.size
      have hT : TgR W W.heap.size Ai ni ci Al nl cl ids ll A n8 c (ptsR l a) := ⟨hst.sh.sh.more (by omega), KyR.of_own hown⟩
      have hck := PCheck13 (kv : Int) Ai ni ci Al nl cl ids ll A n8 c (ptsR l a) W hT (few_of_chk (by rw [mayB, Bool.and_eq_true] at hmb; exact hmb.2))
      have hbel := hst.bel
      have hres := hst.res
      have hshe := hst.sh
      have HE0 := Lib.hid (show readE l (a : Int) = if okG (kv : Int) ids ll n8 (ptsR l a) = false then 3 else 0 by
        rw [readE, if_neg Hd.out, if_neg (by rw [Int.toNat_natCast, HlvQ.out, Hq.out]; simp), if_neg (by rw [Int.toNat_natCast, HlvQ.out, HidQ.out, Hkd.out, ← Hi.out, ← Hll.out]; simpa using hmb), if_neg (by rw [Int.toNat_natCast, HlvQ.out, Hq.out, ← Hn8.out]; show ¬ l.length < q + n8 * 32; have := Hr8.out; have := Hl.out; omega), Int.toNat_natCast, HlvQ.out, Hq.out, HidQ.out, ← Hi.out, Hkd.out, ← Hn8.out])
      have HG := Lib.hid (show ∀ w', okG (kv : Int) ids ll n8 (ptsR l a) = true → Below w.heap.size w w' → TgR w' w'.heap.size Ai ni ci Al nl cl ids ll A n8 c (ptsR l a) → PO (.returned (.tuple #[.agg (tgV (kv : Int) Ai ni ci Al nl cl A n8 c), .int .i64 (r : Int), .int .i64 0])) w' from fun w' hok h2 h3 => by
        have h4 := Hgood.out w' Ai ni ci Al nl cl A c (by rw [HE0.out, hok, if_neg (by simp)]) h2
        rw [readN, Int.toNat_natCast, HlvQ.out, Hq.out, HidQ.out, ← Hi.out, Hkd.out, ← Hn8.out] at h4
        rw [Hr8.out]
        exact h4 h3)
      generalize ptsR l a = ps at *
      clear hst hbS hbN hSt hcase hrp hmb hT
      go_wp2_with ((with_reducible show wpList _ _ _ (⟨some 75, _, _, _, _, _⟩ :: _) _ _); refine wpList_loadC (by kernel_rfl) 28 (.tmp 10) rfl (gS + 1) rfl 28 (tgV (kv : Int) Ai ni ci Al nl cl A n8 c) _ hbox Tryd.underlying28 rfl tgInfo2 ?_)
      refine hck.mono ?_
      rintro e w9 ⟨rfl, hb9⟩
      have hK9 : w9.heap[D]? = some (.deferred (some [])) := (hb9.block D hDl).trans hK
      have hbel9 := c_call hbel hb9
      have hbox9 := hbox.call hb9
      have hres9 := hres.call hb9
      have hsh9 := hshe.below (hb9.mono (by omega))
      have hown9 := own_below hown hb9
      have hsz9 := hb9.size
      clear hck hbox hb9 hown hshe hres hbel hK
      have hgw : w.heap.size ≤ g := hwg
      have hput : ∀ (W3 : World) y ob, y < h5 + 2 → (W3.putObj D ob).heap[y]? = W3.heap[y]? := fun W3 y ob hy => by
        unfold World.putObj
        exact Array.getElem?_setIfInBounds_ne (by omega)
      have hrow9 : ∀ (cs : Array Value) y, y ≠ g → (w9.setRow g cs).heap[y]? = w9.heap[y]? := fun cs y hy => setRow_other w9 g y cs hy
      by_cases hok : okG (kv : Int) ids ll n8 ps = true
      · rw [show chkG (kv : Int) ids ll n8 ps = 0 by rw [chkG, if_pos hok]]
        have Hok := Lib.hid hok
        clear hok
        go_wp2_with (first
          | ((with_reducible show wpList _ _ _ (⟨some 79, _, _, _, _, _⟩ :: _) _ _); refine wpList_loadC (by kernel_rfl) 28 (.tmp 10) rfl (gS + 1) rfl 28 (tgV (kv : Int) Ai ni ci Al nl cl A n8 c) _ hbox9 Tryd.underlying28 rfl tgInfo2 ?_)
          | ((with_reducible show wpList _ _ _ (⟨none, Op.store 28 _ _, _, _, _, _⟩ :: _) _ _); refine wpList_store_row rfl 28 (.tmp 4) _ rfl g (tgV (kv : Int) Ai ni ci Al nl cl A n8 c) rfl rfl 28 _ hres9 tgInfo2 rfl (by simp [tgV, Value.oneCell']) ?_))
        have hK3 := (hrow9 (tgV (kv : Int) Ai ni ci Al nl cl A n8 c) D (by omega)).trans hK9
        have hrG := hres9.row (tgV (kv : Int) Ai ni ci Al nl cl A n8 c)
        have hb3 := below_setRow hbel9 hgw (tgV (kv : Int) Ai ni ci Al nl cl A n8 c)
        have hsh3 := hsh9.box hw0 (tgV (kv : Int) Ai ni ci Al nl cl A n8 c)
        have hown3 := hown9.kept (grown_setRowK w9 g (tgV (kv : Int) Ai ni ci Al nl cl A n8 c)) (by
          cases hv : (Value.slice A n8 c).ownBlock with
          | none => exact .inl rfl
          | some z =>
            refine .inr ?_
            have := (hown9.lt z hv).1
            intro h
            injection h with h
            omega)
        have hsz3 : (w9.setRow g (tgV (kv : Int) Ai ni ci Al nl cl A n8 c)).heap.size = w9.heap.size := by simp [World.setRow]
        generalize w9.setRow g (tgV (kv : Int) Ai ni ci Al nl cl A n8 c) = W3 at *
        have hbp : ∀ n0, n0 ≤ D → Below n0 W3 (W3.putObj D (.deferred none)) := fun n0 hn => ⟨rfl, rfl, rfl, by simp [World.putObj], fun y hy => by
          unfold World.putObj
          exact Array.getElem?_setIfInBounds_ne (by omega)⟩
        have hsp : (W3.putObj D (.deferred none)).heap.size = W3.heap.size := by simp [World.putObj]
        refine ⟨by simp, .inl ⟨_, _, rfl, run_takeDeferred hK3, ?_⟩⟩
        refine ⟨_, results_c2 rfl _ _ g 28 (tgV (kv : Int) Ai ni ci Al nl cl A n8 c) _ rfl (hrG.of (hput _ _ _ (by omega))) Tryd.underlying28 rfl tgInfo2, ?_⟩
        exact HG.out _ Hok.out (hb3.trans (hbp _ (by omega))) ⟨(hsh3.below (hbp _ (by omega))).sh.more (by rw [hsp, hsz3]; omega), KyR.of_own (ownsRow_putObj hown3 _ hK3 rfl)⟩
      · rw [show chkG (kv : Int) ids ll n8 ps = 1 by rw [chkG, if_neg hok]]
        have HE := Lib.hid (show (3 : Int) = readE l (a : Int) by rw [HE0.out, if_pos (by simpa using hok)])
        clear hok
        go_wp2_with ((with_reducible show wpList _ _ _ (⟨none, Op.store 28 _ _, _, _, _, _⟩ :: _) _ _); refine wpList_store_row rfl 28 (.tmp 4) _ rfl g (tgV 0 none 0 0 none 0 0 none 0 0) rfl rfl 28 _ hres9 tgInfo2 rfl (by simp [tgV, Value.oneCell']) ?_)
        have hK3 := (hrow9 (tgV 0 none 0 0 none 0 0 none 0 0) D (by omega)).trans hK9
        have hrG := hres9.row (tgV 0 none 0 0 none 0 0 none 0 0)
        have hb3 := below_setRow hbel9 hgw (tgV 0 none 0 0 none 0 0 none 0 0)
        generalize w9.setRow g (tgV 0 none 0 0 none 0 0 none 0 0) = W3 at *
        have hbp : ∀ n0, n0 ≤ D → Below n0 W3 (W3.putObj D (.deferred none)) := fun n0 hn => ⟨rfl, rfl, rfl, by simp [World.putObj], fun y hy => by
          unfold World.putObj
          exact Array.getElem?_setIfInBounds_ne (by omega)⟩
        refine ⟨by simp, .inl ⟨_, _, rfl, run_takeDeferred hK3, ?_⟩⟩
        refine ⟨_, results_c2 rfl _ _ g 28 (tgV 0 none 0 0 none 0 0 none 0 0) _ rfl (hrG.of (hput _ _ _ (by omega))) Tryd.underlying28 rfl tgInfo2, ?_⟩
        exact Hbad.out _ 3 HE.out (by decide) (hb3.trans (hbp _ (by omega)))
end Go.Proofs.YtlidhdljgnijaaaDoor

/-
  THE PROGRAM'S tag.Read is what the laws over hypotheses ask.
-/
set_option linter.unusedVariables false
namespace Go.Proofs.YtlidhdljgnijaaaDoor
open Go.RowKit

theorem tgR : HGR := fun Ab nb cb l d w hr hnc hcm hn hd1 hd2 => PRead13 Ab nb cb l d w hr hnc hcm hn hd1 hd2

end Go.Proofs.YtlidhdljgnijaaaDoor

/-
  THE WALK of TagLeaves (coterielaw13) at the program's own functions.
-/
set_option linter.unusedVariables false
namespace Go.Proofs.YtlidhdljgnijaaaDoor
open Go.RowKit

theorem walk_TagLeaves (kind : Int) (Ai : Option Addr) (ni ci : Nat) (Al : Option Addr) (nl cl : Nat) (ids : List Int) (ll : List (List Int)) (Ap : Option Addr) (np cp : Nat) (ps : List UInt8) (w : World) (h : TgR w w.heap.size Ai ni ci Al nl cl ids ll Ap np cp ps) (hT : CTab w) :
    Calls Tryd.prog 6 #[.agg (tgV kind Ai ni ci Al nl cl Ap np cp)] w fun e w' => e = .returned (.bool true) ∧ Below w.heap.size w w' :=
  walkH_TagLeaves tgC tgS tgU tgL tgW tgR kind Ai ni ci Al nl cl ids ll Ap np cp ps w h hT

end Go.Proofs.YtlidhdljgnijaaaDoor

