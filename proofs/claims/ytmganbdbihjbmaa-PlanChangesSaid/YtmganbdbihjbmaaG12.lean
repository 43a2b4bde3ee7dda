import Derived.Test.YtmganbdbihjbmaaG10
import Derived.Test.YtmganbdbihjbmaaG07
/-
  CONTRACT of the document's Spans (coterieref10).
-/
set_option linter.unusedVariables false
namespace Go.Proofs.Ytmganbdbihjbmaa
open Go.RowKit

/-- where the groups of a level begin, and how many leaves there are -/
def scanTo (w : List Nat) (x : Nat) : List Nat := (List.range (x + 1)).map (startT w)
def scanT (w : List Nat) : List Nat := scanTo w w.length
def spansL (many : Nat) (lv : List (List Nat)) (k : Nat) : List Nat := scanT (wideL (List.replicate many 1) (lv.take (k + 1)))
def spansOk (ids : List Int) (ll : List (List Int)) (level : Int) : Prop := chkT ids ll = true ∧ 0 ≤ level ∧ level < ll.length
def ivn (n : Nat) : Value := iv (n : Int)
/-- what a tree's spans answer -/
def SpansPost (w : World) (ids : List Int) (ll : List (List Int)) (level : Int) (e : Ending) (w' : World) : Prop :=
  Below w.heap.size w w' ∧ ((¬ spansOk ids ll level ∧ e = .returned (.tuple #[.slice none 0 0, .int .i64 1])) ∨
    (spansOk ids ll level ∧ ∃ A n c, e = .returned (.tuple #[.slice A n c, .int .i64 0]) ∧ n ≤ c ∧ c ≤ maxLen ∧ Rd w' w'.heap.size A n ((spansL ids.length (lvN ll) level.toNat).map ivn)))
theorem wideL_snoc : ∀ (lv : List (List Nat)) (w l : List Nat), wideL w (lv ++ [l]) = chunkT l (wideL w lv)
  | [], w, l => rfl
  | x :: lv, w, l => by rw [List.cons_append, wideL, wideL_snoc lv]; rfl
theorem one_ivN (l : List Nat) : ∀ u ∈ l.map ivn, u.oneCell' = true := one_ivn l
/-- so far a level's sums -/
theorem chunk_part : ∀ (l w : List Nat) (k : Nat) (hk : k < l.length), chunkT (l.take (k + 1)) w = chunkT (l.take k) w ++ [((w.drop (startT l k)).take l[k]).sum]
  | [], w, k, hk => by simp at hk
  | n :: l, w, 0, hk => by simp [chunkT, startT]
  | n :: l, w, k + 1, hk => by
    rw [List.take_succ_cons, List.take_succ_cons, chunkT, chunkT, chunk_part l (w.drop n) k (by simpa using hk), startT_cons, List.drop_drop, List.getElem_cons_succ]
    rfl
theorem take_le_sum (w : List Nat) (k : Nat) : (w.take k).sum ≤ w.sum := startT_le w k
theorem drop_take_sum (w : List Nat) (a n : Nat) : ((w.drop a).take n).sum ≤ w.sum := by
  have h1 := startT_le (w.drop a) n
  have h2 : (w.take a ++ w.drop a).sum = w.sum := by rw [List.take_append_drop]
  rw [List.sum_append] at h2
  unfold startT at h1
  omega

end Go.Proofs.Ytmganbdbihjbmaa

/-
  CONTRACTS of the document's Nodes and first (coterieref10).
-/
set_option linter.unusedVariables false
namespace Go.Proofs.Ytmganbdbihjbmaa
open Go.RowKit

def nilV : Value := .slice none 0 0
theorem nilV_def : nilV = .slice none 0 0 := rfl
theorem NdL.leaves (w : World) (B : Nat) : ∀ (ids : List Int), NdL w B (leavesF ids) (List.replicate ids.length nilV)
  | [] => trivial
  | i :: ids => ⟨rfl, NdL.leaves w B ids⟩
theorem group_part : ∀ (l : List Nat) (F : List Nd) (k : Nat) (hk : k < l.length), groupF (l.take (k + 1)) F = groupF (l.take k) F ++ [ofKids ((F.drop (startT l k)).take l[k])]
  | [], F, k, hk => by simp at hk
  | n :: l, F, 0, hk => by simp [groupF, startT]
  | n :: l, F, k + 1, hk => by
    rw [List.take_succ_cons, List.take_succ_cons, groupF, groupF, group_part l (F.drop n) k (by simpa using hk), startT_cons, List.drop_drop, List.getElem_cons_succ]
    rfl
theorem nodesF_snoc : ∀ (lv : List (List Nat)) (F : List Nd) (l : List Nat), nodesF F (lv ++ [l]) = groupF l (nodesF F lv)
  | [], F, l => rfl
  | x :: lv, F, l => by rw [List.cons_append, nodesF, nodesF_snoc lv]; rfl

set_option maxRecDepth 100000 in
set_option maxHeartbeats 8000000 in
theorem Nodes_any (Ai : Option Addr) (ni ci : Nat) (Al : Option Addr) (nl cl : Nat) (ids : List Int) (ll : List (List Int)) (w : World) (h : ShR w w.heap.size Ai ni ci Al nl cl ids ll) (hf : ∀ l ∈ ll, l.length ≤ 1000000) (hc : chkT ids ll = true) :
    Calls Try.prog 54 #[.agg (shV Ai ni ci Al nl cl)] w fun e w' => Below w.heap.size w w' ∧ ∃ A n c, e = .returned (.slice A n c) ∧ SlN w' w'.heap.size A n c (nodesF (leavesF ids) (lvN ll)) := by
  have Hnl := Lib.hid h.hnl
  have Hni := Lib.hid h.hni
  have hml := h.hml
  have hcl := h.hcl
  have hmi := Nat.le_trans h.hci h.hmi
  have hM := (Ms.nil w).box 25 #[.slice Ai ni ci, .slice Al nl cl]
  obtain ⟨vs, hv, hlv⟩ := h.lvs
  have hids := h.hids
  obtain ⟨hn1000, _, hlo, hin⟩ := chkT_lv hc
  have hni1000 : ni ≤ 1000 := by rw [← Hni.out]; exact hn1000
  clear h hc
  rw [maxLen] at hml hmi
  rw [shV]
  have hlt1 := (hM.get 0 rfl).lt
  go_enter Try.func54, Try.ntmps54
  go_wp2_with fail
  go_loopw [3, 14] (fun v i wr => ∃ (j : Nat) (A : Option Addr) (c : Nat), j ≤ ni ∧ i = .int .i64 (j : Int) ∧ v = .slice A j c ∧ wr.ownsRow (w.heap.size + 1) 85 2 (.slice A j c) j (flatV (leavesF (ids.take j)) (List.replicate j nilV)) ∧ Ms w wr [(w.heap.size, 25, #[.slice Ai ni ci, .slice Al nl cl])]) (fun _ i _ => ni - (intOf i).toNat)
  case atStart => exact ⟨0, none, 0, by omega, rfl, rfl, World.ownsRow_nil _ _ _ _, hM⟩
  case round =>
    clear hM hlt1
    obtain ⟨j, A, c, hj, rfl, rfl, hown, hM⟩ := hrel
    have hb := hM.old
    have hlt1 := (hM.get 0 rfl).lt
    have hjl : (ids.take j).length = j := by rw [List.length_take, Hni.out]; omega
    by_cases hlt : j < ni
    · obtain ⟨x, hx⟩ : ∃ x, ids[j]? = some x := ⟨_, List.getElem?_eq_getElem (by rw [Hni.out]; exact hlt)⟩
      obtain ⟨g, o, rfl, hgl, hcell⟩ := (hids.below hb).pos (by omega)
      have c1 := hcell j (iv x) (by rw [List.getElem?_map, hx]; rfl)
      rw [iv_def] at c1
      have Ht := Lib.hid (show leavesF (ids.take (j + 1)) = leavesF (ids.take j) ++ [Nd.leaf x] by rw [take_one hx, leavesF, List.map_append]; rfl)
      clear hcell hx
      have hrd : Rd (wr.alloc (.cells #[.int .i64 x, .slice none 0 0] 85)) (wr.heap.size + 1) (some ⟨wr.heap.size, 0, none⟩) (2 * 1) (flatV [Nd.leaf x] [nilV]) := Rd.mk_ _ _ _ rfl (by omega) rfl rfl
      go_wp2_with (at_builtin; refine wpList_append_nd rfl (.tmp 18) (.tmp 21) rfl (w.heap.size + 1) A j c (leavesF (ids.take j)) (List.replicate j nilV) rfl (own_below hown ((Below.refl _ _).alloc (Nat.le_refl _) _)) _ (some ⟨wr.heap.size, 0, none⟩) 1 1 [Nd.leaf x] [nilV] rfl ⟨rfl, trivial⟩ hrd (by omega) (by simp; omega) (by rw [List.length_replicate, leavesF, List.length_map, hjl]) ?_; intro A3 c3 w3 hown3 hgr3 _)
      have hM3 := (hM.allocT (.cells #[.int .i64 x, .slice none 0 0] 85)).grownT hgr3 (fun k hk => by have := own_blockT hown k hk; omega) (fun p hp k hk => by have := own_blockT hown k hk; simp at hp; subst hp; simp; omega)
      rw [← Ht.out, show List.replicate j nilV ++ [nilV] = List.replicate (j + 1) nilV from List.replicate_succ'.symm] at hown3
      go_roundw
      case rel => exact ⟨j + 1, A3, c3, by omega, by go_num, rfl, hown3, hM3⟩
      case measure => simp [intOf]; omega
    · obtain rfl : j = ni := by omega
      rw [List.take_of_length_le (by rw [Hni.out]; exact Nat.le_refl _)] at hown hjl
      have k1 := (hM.get 0 rfl).cell (i := 1) (v := .slice Al nl cl) rfl
      have hS0 : SlN wr wr.heap.size A j c (leavesF ids) := SlN.of_own hown (by have := NdL.leaves wr wr.heap.size ids; rw [Hni.out] at this; exact this)
      have HS0 := Lib.hid hS0
      clear hS0 hown
      go_wp2_with fail
      go_loopw [3, 27] (fun v i wr => ∃ (q n6 : Nat) (F : List Nd) (A6 : Option Addr) (c6 : Nat), q ≤ nl ∧ i = .int .i64 (q : Int) ∧ v = .slice A6 n6 c6 ∧ F = nodesF (leavesF ids) ((lvN ll).take q) ∧ n6 ≤ 1000 ∧ lvOK n6 ((lvN ll).drop q) ∧
        SlN wr wr.heap.size A6 n6 c6 F ∧ Ms w wr [(w.heap.size, 25, #[.slice Ai j ci, .slice Al nl cl])]) (fun _ i _ => nl - (intOf i).toNat)
      case atStart => exact ⟨0, j, leavesF ids, A, c, by omega, rfl, rfl, rfl, hni1000, by rw [← Hni.out]; exact hlo, HS0.out, hM⟩
      case round =>
        clear hM k1 HS0 hb hlt1
        obtain ⟨q, n6, F, A6, c6, hq, rfl, rfl, hF, hn6, hlv2, hS, hM⟩ := hrel
        have hb := hM.old
        have hlt1 := (hM.get 0 rfl).lt
        obtain ⟨hFl, hnc, hcm, _⟩ := id hS
        rw [maxLen] at hcm
        by_cases hqv : q < nl
        · have hql : q < ll.length := by rw [Hnl.out]; omega
          obtain ⟨A1, c1, hvj, hc1, hm1, hrj⟩ := hlv.get hql
          obtain ⟨g, o, rfl, hgl, hcell⟩ := (hv.below hb).pos (by omega)
          have d1 := hcell q _ hvj
          have hlm := hf _ (List.getElem_mem hql)
          obtain ⟨n1, n2, n3⟩ := in23_nat _ (hin _ (List.getElem_mem hql))
          have hd : (lvN ll).drop q = natL ll[q] :: (lvN ll).drop (q + 1) := by
            have hql' : q < (lvN ll).length := by rw [lvN, List.length_map]; exact hql
            rw [List.drop_eq_getElem_cons hql']
            simp [lvN]
          have htk : (lvN ll).take (q + 1) = (lvN ll).take q ++ [natL ll[q]] := by
            have hql' : q < (lvN ll).length := by rw [lvN, List.length_map]; exact hql
            rw [List.take_succ_eq_append_getElem hql']
            simp [lvN]
          rw [hd] at hlv2
          obtain ⟨o1, o2, o3, o4⟩ := hlv2
          have HFn := Lib.hid (show nodesF (leavesF ids) ((lvN ll).take (q + 1)) = groupF (natL ll[q]) F by rw [htk, nodesF_snoc, ← hF])
          clear hcell hvj hd htk hF
          generalize ll[q] = l at *
          rw [maxLen] at hm1
          have hnl : (natL l).length = l.length := by rw [natL, List.length_map]
          have hnn := two3_len n1
          have Ho4 := Lib.hid o4
          clear o1 o2 o4
          obtain ⟨b0, hb0⟩ : ∃ b0, b0 = wr.heap.size := ⟨_, rfl⟩
          have hSb : SlN wr b0 A6 n6 c6 F := by rw [hb0]; exact hS
          have hb0w : b0 ≤ wr.heap.size := by omega
          have hb0l : w.heap.size + 1 ≤ b0 := by omega
          clear hS hb0
          go_wp2_with fail
          go_loopw [3, 8, 33] (fun v u i wz => ∃ (k nn : Nat) (Aw : Option Addr) (cw : Nat) (A : Option Addr) (c : Nat) (us : List Value), k ≤ l.length ∧ i = .int .i64 (k : Int) ∧ v = .slice Aw nn cw ∧ nn + startT (natL l) k = n6 ∧ SlN wz b0 Aw nn cw (F.drop (startT (natL l) k)) ∧
            u = .slice A k c ∧ wz.ownsRow b0 85 2 (.slice A k c) k (flatV (groupF ((natL l).take k) F) us) ∧ NdL wz b0 (groupF ((natL l).take k) F) us ∧ b0 ≤ wz.heap.size ∧ Ms w wz [(w.heap.size, 25, #[.slice Ai j ci, .slice (some ⟨g, o, none⟩) nl cl])]) (fun _ _ i _ => l.length - (intOf i).toNat)
          case atStart => exact ⟨0, n6, A6, c6, none, 0, [], by omega, rfl, rfl, by rw [startT_zero]; omega, by rw [startT_zero]; exact hSb, rfl, World.ownsRow_nil _ _ _ _, trivial, hb0w, hM⟩
          case round =>
            clear hM hSb hb hb0w hnc hcm hlt1 hFl
            obtain ⟨k, nn, Aw, cw, A, c, us, hk, rfl, rfl, hnk, hS, rfl, hown, hNd, hbz, hM⟩ := hrel
            have hb := hM.old
            obtain ⟨hFl, hnc, hcm, _⟩ := id hS
            rw [maxLen] at hcm
            by_cases hkl : k < l.length
            · have hkn : k < (natL l).length := by omega
              obtain ⟨gg, oo, rfl, hgg, hcell2⟩ := (hrj.below hb).pos (by omega)
              have d2 := hcell2 k (iv l[k]) (by rw [List.getElem?_map, List.getElem?_eq_getElem hkl]; rfl)
              have hny := n3 k hkl
              have hss := startT_succ (natL l) hkn
              have h23 := two3_get n1 hkn
              have hsl := startT_le (natL l) (k + 1)
              have Hck := Lib.hid (group_part (natL l) F k hkn)
              rw [iv_def, hny] at d2
              generalize (natL l)[k] = n at *
              clear hcell2 hny
              have hnn2 : n ≤ nn := by omega
              have z1 : (n : Int) ≤ (nn : Int) := by omega
              have z2 : (n : Int) ≤ (cw : Int) := by omega
              have z3 : (0 : Int) ≤ (n : Int) := by omega
              have z4 : (nn : Int) ≤ (cw : Int) := by omega
              obtain ⟨Gk, hGk⟩ : ∃ Gk, Gk = (F.drop (startT (natL l) k)).take n := ⟨_, rfl⟩
              have hSk := hS.take (k := n) (c' := n) hnn2 (Nat.le_refl _) (by omega)
              rw [← hGk] at hSk Hck
              have hGl : Gk.length = n := hSk.1
              have hNk := (hSk.node (by omega)).alloc hbz (.cells #[.int .i64 0, .slice Aw n n] 85)
              have hidk : (ofKids Gk).id = 0 := ofKids_id (by omega)
              have hrd : Rd (wr.alloc (.cells #[.int .i64 0, .slice Aw n n] 85)) (wr.heap.size + 1) (some ⟨wr.heap.size, 0, none⟩) (2 * 1) (flatV [ofKids Gk] [.slice Aw n n]) := Rd.mk_ _ _ _ rfl (by omega) rfl (by rw [flatV, hidk]; rfl)
              have hcut := hS.cut (k := n) hnn2
              rw [List.drop_drop, ← hss] at hcut
              have hgl := group_len ((natL l).take k) F
              rw [List.length_take, Nat.min_eq_left (by omega)] at hgl
              have hul := hNd.len
              have Hs3 := Lib.hid hss
              clear hGk hSk hidk hss
              have Hnd := Lib.hid (hNd.keep (fun _ _ _ hr => hr.alloc hbz (.cells #[.int .i64 0, .slice Aw n n] 85)))
              by_cases hcx : cw = n
              · rw [if_pos hcx] at hcut
                have hx0 : nn - n = 0 := by omega
                have hx1 : cw - n = 0 := by omega
                have zz : nn = n := by omega
                rw [hx0, hx1] at hcut
                go_wp2_with (at_builtin; refine wpList_append_nd rfl (.tmp 37) (.tmp 43) rfl b0 A k c (groupF ((natL l).take k) F) us rfl (own_below hown ((Below.refl _ _).alloc (Nat.le_refl _) _)) (wr.heap.size + 1) (some ⟨wr.heap.size, 0, none⟩) 1 1 [ofKids Gk] [.slice Aw n n] rfl ⟨hNk.more (by omega), trivial⟩ hrd (by omega) (by simp; omega) (by omega) ?_; intro A3 c3 w3 hown3 hgr3 _)
                have hM3 := (hM.allocT (.cells #[.int .i64 0, .slice Aw n n] 85)).grownT hgr3 (fun y hy => by have := own_blockT hown y hy; omega) (fun p hp y hy => by have := own_blockT hown y hy; simp at hp; subst hp; simp; omega)
                have hS3 := (hcut.alloc hbz (.cells #[.int .i64 0, .slice Aw n n] 85)).grown hgr3 (by simp; omega) (own_blockT hown)
                have hN3 := (Hnd.out.app (G := [ofKids Gk]) (us := [.slice Aw n n]) ⟨hNk, trivial⟩).keep (fun _ _ _ hr => hr.grown hgr3 (by simp; omega) (own_blockT hown))
                have hs3 : wr.heap.size + 1 ≤ w3.heap.size := by
                  have := hgr3.size
                  simpa using this
                rw [← Hck.out] at hown3 hN3
                go_roundw
                case rel => exact ⟨k + 1, 0, Aw, 0, A3, c3, us ++ [.slice Aw n n], by omega, by go_num, rfl, by rw [Hs3.out]; omega, hS3, rfl, hown3, hN3, by omega, hM3⟩
                case measure => simp [intOf]; omega
              · rw [if_neg hcx] at hcut
                go_wp2_with (at_builtin; refine wpList_append_nd rfl (.tmp 37) (.tmp 43) rfl b0 A k c (groupF ((natL l).take k) F) us rfl (own_below hown ((Below.refl _ _).alloc (Nat.le_refl _) _)) (wr.heap.size + 1) (some ⟨wr.heap.size, 0, none⟩) 1 1 [ofKids Gk] [.slice Aw n n] rfl ⟨hNk.more (by omega), trivial⟩ hrd (by omega) (by simp; omega) (by omega) ?_; intro A3 c3 w3 hown3 hgr3 _)
                have hM3 := (hM.allocT (.cells #[.int .i64 0, .slice Aw n n] 85)).grownT hgr3 (fun y hy => by have := own_blockT hown y hy; omega) (fun p hp y hy => by have := own_blockT hown y hy; simp at hp; subst hp; simp; omega)
                have hS3 := (hcut.alloc hbz (.cells #[.int .i64 0, .slice Aw n n] 85)).grown hgr3 (by simp; omega) (own_blockT hown)
                have hN3 := (Hnd.out.app (G := [ofKids Gk]) (us := [.slice Aw n n]) ⟨hNk, trivial⟩).keep (fun _ _ _ hr => hr.grown hgr3 (by simp; omega) (own_blockT hown))
                have hs3 : wr.heap.size + 1 ≤ w3.heap.size := by
                  have := hgr3.size
                  simpa using this
                rw [← Hck.out] at hown3 hN3
                go_roundw
                case rel => exact ⟨k + 1, nn - n, Aw.map (·.add (n * 2)), cw - n, A3, c3, us ++ [.slice Aw n n], by omega, by go_num, rfl, by rw [Hs3.out]; omega, hS3, rfl, hown3, hN3, by omega, hM3⟩
                case measure => simp [intOf]; omega
            · obtain rfl : k = l.length := by omega
              rw [List.take_of_length_le (by omega)] at hown hNd
              have HS := Lib.hid (SlN.of_own hown (hNd.keep (fun _ _ _ hr => hr.more hbz)))
              have hlq : l.length ≤ 1000 := by omega
              go_wp2_with fail
              go_roundw
              case rel => exact ⟨q + 1, l.length, groupF (natL l) F, A, c, by omega, by go_num, rfl, HFn.out.symm, hlq, by rw [← hnl]; exact Ho4.out, HS.out, hM⟩
              case measure => simp [intOf]; omega
        · obtain rfl : q = nl := by omega
          have HF := Lib.hid (show F = nodesF (leavesF ids) (lvN ll) by rw [hF, List.take_of_length_le (by rw [lvN, List.length_map, Hnl.out]; exact Nat.le_refl _)])
          clear hF
          go_wp2_with fail
          go_ret
          exact ⟨hM.old, A6, n6, c6, rfl, by rw [← HF.out]; exact hS⟩

end Go.Proofs.Ytmganbdbihjbmaa

