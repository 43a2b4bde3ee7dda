import Derived.Test.YtjhcnhihmgpgbaaG06
/-
  CONTRACT of the document's Spans (coterieref10).
-/
set_option linter.unusedVariables false
namespace Go.Proofs.Ytjhcnhihmgpgbaa
open Go.RowKit

/-- where the groups of a level begin, and how many leaves there are -/
def scanTo (w : List Nat) (x : Nat) : List Nat := (List.range (x + 1)).map (startT w)
def scanT (w : List Nat) : List Nat := scanTo w w.length
def spansL (many : Nat) (lv : List (List Nat)) (k : Nat) : List Nat := scanT (wideL (List.replicate many 1) (lv.take (k + 1)))
def spansOk (ids : List Int) (ll : List (List Int)) (level : Int) : Prop := chkT ids ll = true ∧ 0 ≤ level ∧ level < ll.length
def ivn (n : Nat) : Value := iv (n : Int)
/-- what a tree's spans answer -/
def SpansPost (w : World) (ids : List Int) (ll : List (List Int)) (level : Int) (e : Ending) (w' : World) : Prop :=
  Below w.heap.size w w' ∧ ((¬ spansOk ids ll level ∧ e = .returned (.tuple #[.slice none 0 0, .int .i64 1])) ∨
    (spansOk ids ll level ∧ ∃ A n c, e = .returned (.tuple #[.slice A n c, .int .i64 0]) ∧ n ≤ c ∧ c ≤ maxLen ∧ Rd w' w'.heap.size A n ((spansL ids.length (lvN ll) level.toNat).map ivn)))
theorem wideL_snoc : ∀ (lv : List (List Nat)) (w l : List Nat), wideL w (lv ++ [l]) = chunkT l (wideL w lv)
  | [], w, l => rfl
  | x :: lv, w, l => by rw [List.cons_append, wideL, wideL_snoc lv]; rfl
theorem one_ivN (l : List Nat) : ∀ u ∈ l.map ivn, u.oneCell' = true := one_ivn l
/-- so far a level's sums -/
theorem chunk_part : ∀ (l w : List Nat) (k : Nat) (hk : k < l.length), chunkT (l.take (k + 1)) w = chunkT (l.take k) w ++ [((w.drop (startT l k)).take l[k]).sum]
  | [], w, k, hk => by simp at hk
  | n :: l, w, 0, hk => by simp [chunkT, startT]
  | n :: l, w, k + 1, hk => by
    rw [List.take_succ_cons, List.take_succ_cons, chunkT, chunkT, chunk_part l (w.drop n) k (by simpa using hk), startT_cons, List.drop_drop, List.getElem_cons_succ]
    rfl
theorem take_le_sum (w : List Nat) (k : Nat) : (w.take k).sum ≤ w.sum := startT_le w k
theorem drop_take_sum (w : List Nat) (a n : Nat) : ((w.drop a).take n).sum ≤ w.sum := by
  have h1 := startT_le (w.drop a) n
  have h2 : (w.take a ++ w.drop a).sum = w.sum := by rw [List.take_append_drop]
  rw [List.sum_append] at h2
  unfold startT at h1
  omega

set_option maxRecDepth 100000 in
set_option maxHeartbeats 8000000 in
theorem SpansT_any (Ai : Option Addr) (ni ci : Nat) (Al : Option Addr) (nl cl : Nat) (ids : List Int) (ll : List (List Int)) (level : Int) (w : World) (hl1 : -9223372036854775808 ≤ level) (hl2 : level ≤ 9223372036854775807) (h : ShR w w.heap.size Ai ni ci Al nl cl ids ll) (hf : ∀ l ∈ ll, l.length ≤ 1000000) :
    Calls Try.prog 24 #[.agg (shV Ai ni ci Al nl cl), .int .i64 level] w (SpansPost w ids ll level) := by
  obtain ⟨i0, hi0, hz0, hz1, hz2⟩ := info_parts intInfo
  have Hnl := Lib.hid h.hnl
  have hml := h.hml
  have hcl := h.hcl
  have hM := (Ms.nil w).box 25 #[.slice Ai ni ci, .slice Al nl cl]
  have hck := CheckT_any Ai ni ci Al nl cl ids ll _ ((h.below hM.old).more hM.old.size) hf
  rw [shV] at hck
  obtain ⟨vs, hv, hlv⟩ := h.lvs
  have Hni := Lib.hid h.hni
  have hmi := Nat.le_trans h.hci h.hmi
  clear h
  rw [maxLen] at hml hmi
  rw [shV]
  have Hpost := Lib.hid (show ∀ e w', Below w.heap.size w w' → ((¬ spansOk ids ll level ∧ e = .returned (.tuple #[.slice none 0 0, .int .i64 1])) ∨
    (spansOk ids ll level ∧ ∃ A n c, e = .returned (.tuple #[.slice A n c, .int .i64 0]) ∧ n ≤ c ∧ c ≤ maxLen ∧ Rd w' w'.heap.size A n ((spansL ids.length (lvN ll) level.toNat).map ivn))) → SpansPost w ids ll level e w' from fun _ _ h1 h2 => ⟨h1, h2⟩)
  generalize SpansPost w ids ll level = PO at *
  go_enter Try.func24, Try.ntmps24
  go_wp2_with fail
  refine hck.mono ?_
  rintro e w1 ⟨rfl, hb1⟩
  have hM1 := hM.call hb1
  clear hM hb1 hck
  by_cases hc : chkT ids ll = true
  rotate_left
  · have hcf : chkE ids ll = 1 := by rw [chkE, if_neg hc]
    rw [hcf]
    have Hno := Lib.hid (show ¬ spansOk ids ll level from fun h => hc h.1)
    clear hc hcf
    go_wp2_with fail
    (first | refine Hpost.out _ _ ?_ ?_ | refine bodyPost_ret (results_tmp2 rfl _ _ _) rfl (Hpost.out _ _ ?_ ?_))
    · exact hM1.old
    · exact .inl ⟨Hno.out, rfl⟩
  have he : chkE ids ll = 0 := by rw [chkE, hc]; rfl
  rw [he]
  clear he
  by_cases h0 : level < 0
  · have Hno := Lib.hid (show ¬ spansOk ids ll level from fun h => by have := h.2.1; omega)
    clear hc
    go_wp2_with fail
    (first | refine Hpost.out _ _ ?_ ?_ | refine bodyPost_ret (results_tmp2 rfl _ _ _) rfl (Hpost.out _ _ ?_ ?_))
    · exact hM1.old
    · exact .inl ⟨Hno.out, rfl⟩
  have k1 := (hM1.get 0 rfl).cell (i := 1) (v := .slice Al nl cl) rfl
  have k0 := (hM1.get 0 rfl).cell (i := 0) (v := .slice Ai ni ci) rfl
  by_cases h1 : (nl : Int) ≤ level
  · have Hno := Lib.hid (show ¬ spansOk ids ll level from fun h => by have := h.2.2; rw [Hnl.out] at this; omega)
    clear hc
    go_wp2_with fail
    (first | refine Hpost.out _ _ ?_ ?_ | refine bodyPost_ret (results_tmp2 rfl _ _ _) rfl (Hpost.out _ _ ?_ ?_))
    · exact hM1.old
    · exact .inl ⟨Hno.out, rfl⟩
  obtain ⟨lev, rfl⟩ := Int.eq_ofNat_of_zero_le (show 0 ≤ level by omega)
  have hlev : lev < nl := by omega
  have hd0 : decide ((lev : Int) < 0) = false := by rw [decide_eq_false_iff_not]; exact h0
  have hd1 : decide (nl ≤ lev) = false := by rw [decide_eq_false_iff_not]; omega
  obtain ⟨hn1000, _, hlo, hin⟩ := chkT_lv hc
  have hni1000 : ni ≤ 1000 := by rw [← Hni.out]; exact hn1000
  have Hrest := Lib.hid (show ∀ e w', Below w.heap.size w w' → (∃ A n c, e = .returned (.tuple #[.slice A n c, .int .i64 0]) ∧ n ≤ c ∧ c ≤ maxLen ∧ Rd w' w'.heap.size A n ((spansL ids.length (lvN ll) lev).map ivn)) → PO e w' from fun e w' h1 h2 => Hpost.out e w' h1 (.inr ⟨⟨hc, by omega, by rw [Hnl.out]; omega⟩, h2⟩))
  clear Hpost hc h0 h1
  go_wp2_with fail
  go_loopw [6, 35] (fun v i wr => ∃ (j : Nat) (A : Option Addr) (c : Nat), j ≤ ni ∧ i = .int .i64 (j : Int) ∧ v = .slice A j c ∧ wr.ownsRow (w.heap.size + 1) 3 1 (.slice A j c) j ((List.replicate j 1).map ivn) ∧ Ms w wr [(w.heap.size, 25, #[.slice Ai ni ci, .slice Al nl cl])]) (fun _ i _ => ni - (intOf i).toNat)
  case atStart => exact ⟨0, none, 0, by omega, rfl, rfl, World.ownsRow_nil _ _ _ _, hM1⟩
  case round =>
    clear hM1 k0 k1
    obtain ⟨j, A, c, hj, rfl, rfl, hown, hM⟩ := hrel
    have hb := hM.old
    by_cases hlt : j < ni
    · go_wp2_with (at_builtin; refine wpList_append_rd _ rfl (.tmp 37) (.tmp 38) _ rfl (w.heap.size + 1) 3 i0 _ 8 Try.underlying22 hi0 hz0 hz1 hz2 rfl (.slice A j c) j _ rfl (own_below hown ((Below.refl _ _).alloc (Nat.le_refl _) _)) (wr.heap.size + 1) (some ⟨wr.heap.size, 0, none⟩) 1 1 [ivn 1] rfl (Rd.mk_ _ _ _ rfl (by omega) rfl rfl) (one_ivN [1]) (by simp only [maxLen]; omega) (by omega) (by simp; have := hM.old.size; omega) ?_; intro v3 w3 hown3 hgr3 hat3)
      obtain ⟨A3, c3, rfl, _, _⟩ := own_formT hown3
      have hM3 := (hM.allocT (.cells #[ivn 1] 3)).grownT hgr3 (fun k hk => by have := own_blockT hown k hk; omega) (fun p hp k hk => by have := own_blockT hown k hk; simp at hp; subst hp; simp; omega)
      rw [show [ivn 1] = [1].map ivn from rfl, ← List.map_append, ← List.replicate_succ'] at hown3
      go_roundw
      case rel => exact ⟨j + 1, A3, c3, by omega, by go_num, rfl, hown3, hM3⟩
      case measure => simp [intOf]; omega
    · obtain rfl : j = ni := by omega
      have k1 := (hM.get 0 rfl).cell (i := 1) (v := .slice Al nl cl) rfl
      have hw1 : IntKind.i64.wrap ((lev : Int) + 1) = (lev : Int) + 1 := by rw [IntKind.wrap_i64]; omega
      have q0 : (0 : Int) ≤ (lev : Int) + 1 := by omega
      have q1 : (lev : Int) + 1 ≤ (cl : Int) := by omega
      have q2 : ((lev : Int) + 1).toNat = lev + 1 := by omega
      obtain ⟨_, _, e0, hjc, hcm⟩ := own_formT hown
      injection e0 with e1 e2 e3
      subst e1 e3
      have Hr0 := Lib.hid (Rd.of_own hown)
      have hlt1 := (hM.get 0 rfl).lt
      go_wp2_with fail
      go_loopw [6, 47] (fun v i wr => ∃ (q n6 : Nat) (W : List Nat) (A6 : Option Addr) (c6 : Nat), q ≤ lev + 1 ∧ i = .int .i64 (q : Int) ∧ v = .slice A6 n6 c6 ∧ W = wideL (List.replicate j 1) ((lvN ll).take q) ∧ W.length = n6 ∧ n6 ≤ c6 ∧ c6 ≤ maxLen ∧ n6 ≤ 1000 ∧ lvOK n6 ((lvN ll).drop q) ∧ W.sum = j ∧
        Rd wr wr.heap.size A6 n6 (W.map ivn) ∧ Ms w wr [(w.heap.size, 25, #[.slice Ai j ci, .slice Al nl cl])]) (fun _ i _ => lev + 1 - (intOf i).toNat)
      case atStart => exact ⟨0, j, List.replicate j 1, A, c, by omega, rfl, rfl, rfl, by simp, hjc, hcm, hni1000, by rw [← Hni.out]; exact hlo, by simp, Hr0.out, hM⟩
      case round =>
        clear hM k1 hown Hr0 hb hjc hcm hlt1
        obtain ⟨q, n6, W, A6, c6, hq, rfl, rfl, hW, hWl, hnc, hcm, hn6, hlv2, hWs, hR, hM⟩ := hrel
        have hb := hM.old
        have hlt1 := (hM.get 0 rfl).lt
        rw [maxLen] at hcm
        by_cases hqv : q < lev + 1
        · have hql : q < ll.length := by rw [Hnl.out]; omega
          have hqi : (q : Int) < (lev : Int) + 1 := by omega
          obtain ⟨A1, c1, hvj, hc1, hm1, hrj⟩ := hlv.get hql
          obtain ⟨g, o, rfl, hgl, hcell⟩ := (hv.below hb).pos (by omega)
          have d1 := hcell q _ hvj
          have hlm := hf _ (List.getElem_mem hql)
          obtain ⟨n1, n2, n3⟩ := in23_nat _ (hin _ (List.getElem_mem hql))
          have hd : (lvN ll).drop q = natL ll[q] :: (lvN ll).drop (q + 1) := by
            have hql' : q < (lvN ll).length := by rw [lvN, List.length_map]; exact hql
            rw [List.drop_eq_getElem_cons hql']
            simp [lvN]
          have htk : (lvN ll).take (q + 1) = (lvN ll).take q ++ [natL ll[q]] := by
            have hql' : q < (lvN ll).length := by rw [lvN, List.length_map]; exact hql
            rw [List.take_succ_eq_append_getElem hql']
            simp [lvN]
          rw [hd] at hlv2
          obtain ⟨o1, o2, o3, o4⟩ := hlv2
          have HWn := Lib.hid (show wideL (List.replicate j 1) ((lvN ll).take (q + 1)) = chunkT (natL ll[q]) W by rw [htk, wideL_snoc, ← hW])
          clear hcell hvj hd htk hW
          generalize ll[q] = l at *
          rw [maxLen] at hm1
          have hnl : (natL l).length = l.length := by rw [natL, List.length_map]
          have hnn := two3_len n1
          have Ho4 := Lib.hid o4
          have Hchs := Lib.hid (show (chunkT (natL l) W).sum = j by
            have e := chunkT_start (natL l) W (natL l).length (Nat.le_refl _) (by omega)
            rw [startT_all, o3, ← hWl, startT_all] at e
            rw [← hWs, ← e, ← chunkT_len (natL l) W, startT_all])
          clear o1 o2 o4
          obtain ⟨b0, hb0⟩ : ∃ b0, b0 = wr.heap.size := ⟨_, rfl⟩
          have hRb : Rd wr b0 A6 n6 (W.map ivn) := by rw [hb0]; exact hR
          have hb0w : b0 ≤ wr.heap.size := by omega
          have hb0l : w.heap.size + 1 ≤ b0 := by omega
          clear hR hb0
          go_wp2_with fail
          go_loopw [6, 9, 53] (fun v u i wz => ∃ (k nn : Nat) (Aw : Option Addr) (cw : Nat) (A : Option Addr) (c : Nat), k ≤ l.length ∧ i = .int .i64 (k : Int) ∧ v = .slice Aw nn cw ∧ nn + startT (natL l) k = n6 ∧ nn ≤ cw ∧ cw ≤ maxLen ∧ Rd wz b0 Aw nn ((W.drop (startT (natL l) k)).map ivn) ∧
            u = .slice A k c ∧ wz.ownsRow b0 3 1 (.slice A k c) k ((chunkT ((natL l).take k) W).map ivn) ∧ b0 ≤ wz.heap.size ∧ Ms w wz [(w.heap.size, 25, #[.slice Ai j ci, .slice (some ⟨g, o, none⟩) nl cl])]) (fun _ _ i _ => l.length - (intOf i).toNat)
          case atStart => exact ⟨0, n6, A6, c6, none, 0, by omega, rfl, rfl, by rw [startT_zero]; omega, hnc, by rw [maxLen]; exact hcm, by rw [startT_zero]; exact hRb, rfl, World.ownsRow_nil _ _ _ _, hb0w, hM⟩
          case round =>
            clear hM hRb hb hb0w hnc hcm hlt1
            obtain ⟨k, nn, Aw, cw, A, c, hk, rfl, rfl, hnk, hnc, hcm, hR, rfl, hown, hbz, hM⟩ := hrel
            have hb := hM.old
            rw [maxLen] at hcm
            by_cases hkl : k < l.length
            · have hkn : k < (natL l).length := by omega
              obtain ⟨gg, oo, rfl, hgg, hcell2⟩ := (hrj.below hb).pos (by omega)
              have d2 := hcell2 k (iv l[k]) (by rw [List.getElem?_map, List.getElem?_eq_getElem hkl]; rfl)
              have hny := n3 k hkl
              have hss := startT_succ (natL l) hkn
              have h23 := two3_get n1 hkn
              have hsl := startT_le (natL l) (k + 1)
              have Hck := Lib.hid (chunk_part (natL l) W k hkn)
              rw [iv_def, hny] at d2
              have hsum := drop_take_sum W (startT (natL l) k) (natL l)[k]
              generalize (natL l)[k] = n at *
              clear hcell2 hny
              have hnn2 : n ≤ nn := by omega
              have z1 : (n : Int) ≤ (nn : Int) := by omega
              have z2 : (n : Int) ≤ (cw : Int) := by omega
              have z3 : (0 : Int) ≤ (n : Int) := by omega
              have z4 : (nn : Int) ≤ (cw : Int) := by omega
              have hwl : (W.drop (startT (natL l) k)).length = nn := by rw [List.length_drop, hWl]; omega
              go_wp2_with fail
              go_loop [12, 61] (fun s i => ∃ x : Nat, x ≤ n ∧ i = .int .i64 (x : Int) ∧ s = .int .i64 (((W.drop (startT (natL l) k)).take x).sum : Nat)) (fun _ i => n - (intOf i).toNat)
              case atStart => exact ⟨0, by omega, rfl, rfl⟩
              case round =>
                obtain ⟨x, hx, rfl, rfl⟩ := hrel
                by_cases hxn : x < n
                · obtain ⟨ga, oa, rfl, hga, hcell3⟩ := hR.pos (by omega)
                  obtain ⟨y, hy⟩ : ∃ y, (W.drop (startT (natL l) k))[x]? = some y := ⟨_, List.getElem?_eq_getElem (by omega)⟩
                  have d3 := hcell3 x (ivn y) (by rw [List.getElem?_map, hy]; rfl)
                  rw [ivn, iv_def] at d3
                  have hs2 : ((W.drop (startT (natL l) k)).take (x + 1)).sum = ((W.drop (startT (natL l) k)).take x).sum + y := by rw [take_one hy, List.sum_append]; simp
                  have hsx := drop_take_sum W (startT (natL l) k) (x + 1)
                  rw [hs2] at hsx
                  have Hs2 := Lib.hid hs2
                  clear hcell3 hy hs2
                  generalize ((W.drop (startT (natL l) k)).take x).sum = sx at *
                  have hw : IntKind.i64.wrap ((sx : Int) + (y : Int)) = (sx : Int) + (y : Int) := by rw [IntKind.wrap_i64]; omega
                  go_wp2_with fail
                  go_round
                  case rel => exact ⟨x + 1, by omega, by go_num, by rw [Hs2.out]; congr 1⟩
                  case measure => simp [intOf]; omega
                · obtain rfl : x = n := by omega
                  have Hs3 := Lib.hid (show startT (natL l) (k + 1) = startT (natL l) k + x from hss)
                  obtain ⟨sm, hsm⟩ : ∃ sm, sm = ((W.drop (startT (natL l) k)).take x).sum := ⟨_, rfl⟩
                  rw [← hsm] at Hck ⊢
                  have hrd := hR.cut (show x ≤ nn from hnn2) hnc
                  rw [← List.map_drop, List.drop_drop, ← hss] at hrd
                  have hbx : (wr.alloc (.cells #[ivn sm] 3)).heap.size = wr.heap.size + 1 := by simp
                  clear hsum hsm d2 d1 hss
                  by_cases hcx : cw = x
                  · have hx0 : nn - x = 0 := by omega
                    rw [if_pos hcx] at hrd
                    have zz : nn = x := by omega
                    go_wp2_with (at_builtin; refine wpList_append_rd _ rfl (.tmp 69) (.tmp 71) _ rfl b0 3 i0 _ 8 Try.underlying22 hi0 hz0 hz1 hz2 rfl (.slice A k c) k _ rfl (own_below hown ((Below.refl _ _).alloc (Nat.le_refl _) _)) (wr.heap.size + 1) (some ⟨wr.heap.size, 0, none⟩) 1 1 [ivn sm] rfl (Rd.mk_ _ _ _ rfl (by omega) rfl rfl) (one_ivN [sm]) (by simp only [maxLen]; omega) (by omega) (by simp; omega) ?_; intro v3 w3 hown3 hgr3 hat3)
                    obtain ⟨A3, c3, rfl, _, _⟩ := own_formT hown3
                    have hM3 := (hM.allocT (.cells #[ivn sm] 3)).grownT hgr3 (fun y hy => by have := own_blockT hown y hy; omega) (fun p hp y hy => by have := own_blockT hown y hy; simp at hp; subst hp; simp; omega)
                    have hR3 := (hrd.alloc hbz (.cells #[ivn sm] 3)).grown hgr3 (by rw [hbx]; omega) (own_blockT hown)
                    have hs3 : wr.heap.size + 1 ≤ w3.heap.size := by
                      have := hgr3.size
                      simpa using this
                    rw [show [ivn sm] = [sm].map ivn from rfl, ← List.map_append, ← Hck.out] at hown3
                    go_roundw
                    case rel => exact ⟨k + 1, 0, Aw, 0, A3, c3, by omega, by go_num, rfl, by rw [Hs3.out]; omega, by omega, by rw [maxLen]; omega, by rw [← hx0]; exact hR3, rfl, hown3, by omega, hM3⟩
                    case measure => simp [intOf]; omega
                  · rw [if_neg hcx] at hrd
                    go_wp2_with (at_builtin; refine wpList_append_rd _ rfl (.tmp 69) (.tmp 71) _ rfl b0 3 i0 _ 8 Try.underlying22 hi0 hz0 hz1 hz2 rfl (.slice A k c) k _ rfl (own_below hown ((Below.refl _ _).alloc (Nat.le_refl _) _)) (wr.heap.size + 1) (some ⟨wr.heap.size, 0, none⟩) 1 1 [ivn sm] rfl (Rd.mk_ _ _ _ rfl (by omega) rfl rfl) (one_ivN [sm]) (by simp only [maxLen]; omega) (by omega) (by simp; omega) ?_; intro v3 w3 hown3 hgr3 hat3)
                    obtain ⟨A3, c3, rfl, _, _⟩ := own_formT hown3
                    have hM3 := (hM.allocT (.cells #[ivn sm] 3)).grownT hgr3 (fun y hy => by have := own_blockT hown y hy; omega) (fun p hp y hy => by have := own_blockT hown y hy; simp at hp; subst hp; simp; omega)
                    have hR3 := (hrd.alloc hbz (.cells #[ivn sm] 3)).grown hgr3 (by rw [hbx]; omega) (own_blockT hown)
                    have hs3 : wr.heap.size + 1 ≤ w3.heap.size := by
                      have := hgr3.size
                      simpa using this
                    rw [show [ivn sm] = [sm].map ivn from rfl, ← List.map_append, ← Hck.out] at hown3
                    go_roundw
                    case rel => exact ⟨k + 1, nn - x, Aw.map (·.add x), cw - x, A3, c3, by omega, by go_num, rfl, by rw [Hs3.out]; omega, by omega, by rw [maxLen]; omega, hR3, rfl, hown3, by omega, hM3⟩
                    case measure => simp [intOf]; omega
            · obtain rfl : k = l.length := by omega
              rw [List.take_of_length_le (by omega)] at hown
              obtain ⟨_, _, e0, hjc, hcm2⟩ := own_formT hown
              injection e0 with e1 e2 e3
              subst e1 e3
              have Hr := Lib.hid (Rd.of_own hown)
              have hlq : l.length ≤ 1000 := by omega
              go_wp2_with fail
              go_roundw
              case rel => exact ⟨q + 1, l.length, chunkT (natL l) W, A, c, by omega, by go_num, rfl, HWn.out.symm, by rw [chunkT_len, hnl], hjc, hcm2, hlq, by rw [← hnl]; exact Ho4.out, Hchs.out, Hr.out, hM⟩
              case measure => simp [intOf]; omega
        · obtain rfl : q = lev + 1 := by omega
          have Hsp := Lib.hid (show spansL ids.length (lvN ll) lev = scanT W by rw [spansL, Hni.out, ← hW])
          have hlt2 := hlt1
          obtain ⟨b1, hb1⟩ : ∃ b1, b1 = wr.heap.size := ⟨_, rfl⟩
          have hRb : Rd (wr.alloc (.cells #[ivn 0] 3)) b1 A6 n6 (W.map ivn) := by rw [hb1]; exact hR.alloc (Nat.le_refl _) _
          have hMa := hM.allocT (.cells #[ivn 0] 3)
          have hown0 : (wr.alloc (.cells #[ivn 0] 3)).ownsRow b1 3 1 (.slice (some ⟨wr.heap.size, 0, none⟩) 1 1) 1 [ivn 0] := own_new _ _ _ #[_] (by omega) (by simp [maxLen])
          have hb1s : b1 ≤ (wr.alloc (.cells #[ivn 0] 3)).heap.size := by simp; omega
          have hb1l : w.heap.size + 1 ≤ b1 := by omega
          clear hR hb1 hM hW hlv2 hlt1 hlt2 hb
          go_wp2_with fail
          go_loopw [15, 82] (fun v i wz => ∃ (x : Nat) (A : Option Addr) (c : Nat), x ≤ n6 ∧ i = .int .i64 (x : Int) ∧ v = .slice A (x + 1) c ∧ wz.ownsRow b1 3 1 (.slice A (x + 1) c) (x + 1) ((scanTo W x).map ivn) ∧ b1 ≤ wz.heap.size ∧ Rd wz b1 A6 n6 (W.map ivn) ∧ Ms w wz [(w.heap.size, 25, #[.slice Ai j ci, .slice Al nl cl])]) (fun _ i _ => n6 - (intOf i).toNat)
          case atStart => exact ⟨0, _, _, by omega, rfl, rfl, hown0, hb1s, hRb, hMa⟩
          case round =>
            clear hMa hRb hown0 hb1s
            obtain ⟨x, A, c, hx, rfl, rfl, hown, hbz, hR, hM⟩ := hrel
            have hb := hM.old
            obtain ⟨_, _, e0, hjc, hcm2⟩ := own_formT hown
            injection e0 with e1 e2 e3
            subst e1 e3
            rw [maxLen] at hcm2
            by_cases hxn : x < n6
            · obtain ⟨y, hy⟩ : ∃ y, W[x]? = some y := ⟨_, List.getElem?_eq_getElem (by omega)⟩
              obtain ⟨gy, hgy⟩ := List.getElem?_eq_some_iff.1 hy
              have hss := startT_succ W gy
              rw [hgy] at hss
              have hsl := startT_le W (x + 1)
              obtain ⟨ga, oa, rfl, hga, hcell3⟩ := hR.pos (by omega)
              have d3 := hcell3 x (ivn y) (by rw [List.getElem?_map, hy]; rfl)
              obtain ⟨gb, ob, rfl, hgb, hcell4⟩ := (Rd.of_own hown).pos (by omega)
              have d4 := hcell4 x (ivn (startT W x)) (by simp [scanTo])
              rw [ivn, iv_def] at d3 d4
              have Hn := Lib.hid (show scanTo W (x + 1) = scanTo W x ++ [startT W x + y] by rw [scanTo, List.range_succ, List.map_append, ← hss]; rfl)
              have hsb : startT W x + y ≤ 1000 := by omega
              clear hcell3 hcell4 hy hss gy hgy hsl
              generalize startT W x = sx at *
              have w0 : IntKind.i64.wrap ((x : Int) + 1 - 1) = (x : Int) := by rw [IntKind.wrap_i64]; omega
              have w2 : IntKind.i64.wrap (((x + 1 : Nat) : Int) - 1) = (x : Int) := by rw [IntKind.wrap_i64]; omega
              have w1 : IntKind.i64.wrap ((sx : Int) + (y : Int)) = ((sx + y : Nat) : Int) := by rw [IntKind.wrap_i64]; omega
              have z0 : (x : Int) < (c : Int) := by omega
              go_wp2_with (at_builtin; refine wpList_append_rd _ rfl (.tmp 86) (.tmp 95) _ rfl b1 3 i0 _ 8 Try.underlying22 hi0 hz0 hz1 hz2 rfl (.slice (some ⟨gb, ob, none⟩) (x + 1) c) (x + 1) _ rfl (own_below hown ((Below.refl _ _).alloc (Nat.le_refl _) _)) (wr.heap.size + 1) (some ⟨wr.heap.size, 0, none⟩) 1 1 [ivn (sx + y)] rfl (Rd.mk_ _ _ _ rfl (by omega) rfl rfl) (one_ivN [_]) (by simp only [maxLen]; omega) (by omega) (by simp; omega) ?_; intro v3 w3 hown3 hgr3 hat3)
              obtain ⟨A3, c3, rfl, _, _⟩ := own_formT hown3
              have hM3 := (hM.allocT (.cells #[ivn (sx + y)] 3)).grownT hgr3 (fun y hy => by have := own_blockT hown y hy; omega) (fun p hp y hy => by have := own_blockT hown y hy; simp at hp; subst hp; simp; omega)
              have hR3 := (hR.alloc hbz (.cells #[ivn (sx + y)] 3)).grown hgr3 (by simp; omega) (own_blockT hown)
              have hs3 : wr.heap.size + 1 ≤ w3.heap.size := by
                have := hgr3.size
                simpa using this
              rw [show [ivn (sx + y)] = [sx + y].map ivn from rfl, ← List.map_append, ← Hn.out] at hown3
              go_roundw
              case rel => exact ⟨_, _, _, ⟨x + 1, by omega, by go_num, A3, c3, rfl, hown3, by omega, hR3, hM3⟩, rfl, rfl, rfl⟩
              case measure => simp [intOf]; omega
            · obtain rfl : x = n6 := by omega
              have Hr := Lib.hid (Rd.of_own hown)
              have Hsw := Lib.hid (show scanTo W x = scanT W by rw [scanT, hWl])
              go_wp2_with fail
              (first | refine Hrest.out _ _ ?_ ?_ | refine bodyPost_ret (results_tmp2 rfl _ _ _) rfl (Hrest.out _ _ ?_ ?_))
              · exact hM.old
              · refine ⟨A, x + 1, c, rfl, hjc, hcm2, ?_⟩
                rw [Hsp.out, ← Hsw.out]
                exact Hr.out

end Go.Proofs.Ytjhcnhihmgpgbaa

