import Derived.Test.YtlidhdljgnijaaaDoorK25
import Derived.Test.YtlidhdljgnijaaaDoorK22
import Derived.Test.YtlidhdljgnijaaaDoorK37
import Derived.Test.YtlidhdljgnijaaaDoorK42
import Derived.Test.YtlidhdljgnijaaaDoorK21
/-
  ANOTHER POINT AT A LEAF CHANGES THE SUMS OF ITS WAY UP ALONE (layer 13): pure facts.
-/
set_option linter.unusedVariables false
namespace Go.Proofs.YtlidhdljgnijaaaDoor
open Go.RowKit

/-- the points with another one at a place -/
def setK (ps : List UInt8) (i : Nat) (pt : List UInt8) : List UInt8 := ps.take (i * 32) ++ pt ++ ps.drop (i * 32 + 32)
theorem setK_len {ps pt : List UInt8} {n i : Nat} (hp : ps.length = n * 32) (ht : pt.length = 32) (hi : i < n) : (setK ps i pt).length = n * 32 := by
  have : (i + 1) * 32 ≤ n * 32 := Nat.mul_le_mul_right _ hi
  rw [setK, List.length_append, List.length_append, List.length_take, List.length_drop, ht]
  omega
theorem setK_at {ps pt : List UInt8} {n i : Nat} (hp : ps.length = n * 32) (ht : pt.length = 32) (hi : i < n) (q : Nat) : (setK ps i pt)[q]? = if i * 32 ≤ q ∧ q < i * 32 + 32 then pt[q - i * 32]? else ps[q]? := by
  have h1 : (i + 1) * 32 ≤ n * 32 := Nat.mul_le_mul_right _ hi
  have hl : (ps.take (i * 32)).length = i * 32 := by rw [List.length_take]; omega
  rw [setK, List.append_assoc]
  rcases Nat.lt_or_ge q (i * 32) with h | h
  · rw [List.getElem?_append_left (by omega), if_neg (by omega), List.getElem?_take, if_pos h]
  · rw [List.getElem?_append_right (by omega), hl]
    rcases Nat.lt_or_ge q (i * 32 + 32) with h2 | h2
    · rw [List.getElem?_append_left (by omega), if_pos ⟨h, h2⟩]
    · rw [List.getElem?_append_right (by omega), if_neg (by omega), List.getElem?_drop]
      congr 1
      omega
theorem keyI_getElem (xs : List UInt8) (k q : Nat) : (keyI xs k)[q]? = if q < 32 then xs[k * 32 + q]? else none := by
  rw [keyI, List.getElem?_take]
  split
  · rw [List.getElem?_drop]
  · rfl
theorem keyI_setK {ps pt : List UInt8} {n i : Nat} (hp : ps.length = n * 32) (ht : pt.length = 32) (hi : i < n) (k : Nat) : keyI (setK ps i pt) k = if k = i then pt else keyI ps k := by
  apply List.ext_getElem?
  intro q
  rw [keyI_getElem]
  by_cases hk : k = i
  · subst hk
    rw [if_pos rfl]
    by_cases hq : q < 32
    · rw [if_pos hq, setK_at hp ht hi, if_pos (by omega), show k * 32 + q - k * 32 = q by omega]
    · rw [if_neg hq, List.getElem?_eq_none (by omega)]
  · rw [if_neg hk, keyI_getElem]
    by_cases hq : q < 32
    · rw [if_pos hq, if_pos hq, setK_at hp ht hi, if_neg (by omega)]
    · rw [if_neg hq, if_neg hq]
/-- what isn't on a way has the same sum, where the points are the same but on it -/
theorem sums_way {ids : List Int} {L : List RN} {ps ps' : List UInt8} {P : List Nat} (hk : ∀ (q : Nat) (x : RN), L[q]? = some x → ∀ c ∈ x.kids, c < q) (hup : ∀ (k c : Nat) (x : RN), L[k]? = some x → c ∈ x.kids → c ∈ P → k ∈ P) (hkey : ∀ k, k ∉ P → keyI ps' k = keyI ps k) :
    ∀ j, j ≤ L.length → ∀ k, k < j → k ∉ P → keyI (sumsJ L ids ps' j) k = keyI (sumsJ L ids ps j) k
  | 0, _, k, hkj, _ => absurd hkj (by omega)
  | j + 1, hj, k, hkj, hP => by
    have hx := List.getElem?_eq_getElem (show j < L.length by omega)
    rw [sumsJ_succ hx, sumsJ_succ hx]
    have h1 := sumsJ_len L ids ps j (by omega)
    have h2 := sumsJ_len L ids ps' j (by omega)
    rcases Nat.lt_or_ge k j with h | h
    · rw [keyI_app_lt h2 h, keyI_app_lt h1 h]
      exact sums_way hk hup hkey j (by omega) k h hP
    · obtain rfl : k = j := by omega
      rw [keyI_app_eq h2 (sumU_len _), keyI_app_eq h1 (sumU_len _)]
      have e : partsN (sumsJ L ids ps' k) ids ps' k L[k] = partsN (sumsJ L ids ps k) ids ps k L[k] := by
        rw [partsN, partsN, hkey k hP]
        split
        · rfl
        · congr 2
          apply List.map_congr_left
          intro c hc
          exact sums_way hk hup hkey k (by omega) c (hk k _ hx c hc) (fun hm => hP (hup k c _ hx hc hm))
      rw [e]
/-- the same of a tree's sums, with another point at a member's leaf -/
theorem tag_way {kind : Int} {ids : List Int} {ll : List (List Int)} {np : Nat} {ps pt : List UInt8} {id : Int} (hok : okG kind ids ll np ps = true) (hps : ps.length = np * 32) (hpt : pt.length = 32) (hnz : pt ≠ zeroK) (hid : id ∈ ids) :
    (pathI kind ids ll id).getD 0 0 < np ∧ okG kind ids ll np (setK ps ((pathI kind ids ll id).getD 0 0) pt) = true ∧ ∀ k, k < np → k ∉ pathI kind ids ll id → keyI (sumsT kind ids ll (setK ps ((pathI kind ids ll id).getD 0 0) pt) np) k = keyI (sumsT kind ids ll ps np) k := by
  have hm := okG_may hok
  have h0 := List.length_pos_of_mem hid
  have hT := top_facts hm h0
  obtain ⟨hpa, hpl⟩ := path_top hT hm (isT_mem.2 hid)
  have hW := way_top hT hpl
  have hL : nodesG kind ids ll = (treeOf kind (lvN ll) (lvN ll).length 0).flat 0 (-1) := by rw [nodesG, nodesU, if_neg (by omega)]
  rw [← hL, ← hpa] at hW
  obtain ⟨en, hn⟩ := nodesG_nf hm
  have hok' := hok
  rw [okG, Bool.and_eq_true, Bool.and_eq_true, Bool.and_eq_true, decide_eq_true_eq, decide_eq_true_eq] at hok'
  obtain ⟨k1, k2, k3, k4⟩ := hok'
  have hnl : (nodesG kind ids ll).length = np := by rw [en, List.length_map] at k3; exact k3
  obtain ⟨a, t, x, eP, hx, hx0, hxa, hxk, _⟩ := hW.first
  have hget : (pathI kind ids ll id).getD 0 0 = a := by rw [eP]; rfl
  have han : a < np := by rw [← hnl]; exact (List.getElem?_eq_some_iff.1 hx).1
  rw [hget]
  refine ⟨han, ?_, fun k hk hkP => ?_⟩
  · have hsome : ∀ j, j ≤ np → someP (setK ps a pt) j = true := by
      have hold : ∀ j, j ≤ np → someP ps j = true := by
        intro j hj
        by_cases h : someP ps j = true
        · exact h
        · exfalso
          have : ∀ m, j ≤ m → someP ps m = false := by
            intro m hm'
            induction m with
            | zero => rw [show j = 0 by omega] at h; exact absurd rfl h
            | succ m ih =>
              rcases Nat.lt_or_ge j (m + 1) with h5 | h5
              · rw [someP, ih (by omega), Bool.false_and]
              · rw [← show j = m + 1 by omega]; exact Bool.eq_false_iff.2 h
          rw [this np hj] at k4
          cases k4
      intro j
      induction j with
      | zero => intro _; rfl
      | succ j ih =>
        intro hj
        have h1 := hold (j + 1) hj
        rw [someP, Bool.and_eq_true] at h1
        rw [someP, ih (by omega), Bool.true_and, keyI_setK hps hpt han]
        split
        · rw [Bool.not_eq_true', beq_eq_false_iff_ne]; exact hnz
        · exact h1.2
    rw [okG, k1, decide_eq_true k2, decide_eq_true k3, hsome np (Nat.le_refl _)]
    rfl
  · rw [sumsT, sumsT]
    refine sums_way (P := pathI kind ids ll id) (fun q y hy c hc => (hn.kidUp hy hc).choose_spec.2.2) (fun q c y hy hc hcP => ?_) (fun q hq => ?_) np (by omega) k hk hkP
    · obtain ⟨i, hi, ei⟩ := List.getElem_of_mem hcP
      obtain ⟨z, hz, hzu⟩ := chainP_at (nodesG kind ids ll) (-1) _ i hW.chain hi
      obtain ⟨z', hz', hzu', _⟩ := hn.kidUp hy hc
      rw [← ei, hz] at hz'
      have e' := Option.some.inj hz'
      subst e'
      rcases Nat.lt_or_ge (i + 1) (pathI kind ids ll id).length with h | h
      · rw [List.drop_eq_getElem_cons h] at hzu
        simp only [nextU] at hzu
        have : (pathI kind ids ll id)[i + 1] = q := by omega
        rw [← this]
        exact List.getElem_mem h
      · rw [List.drop_eq_nil_of_le h] at hzu
        simp only [nextU] at hzu
        omega
    · rw [keyI_setK hps hpt han, if_neg]
      intro e
      exact hq (by rw [e, eP]; simp)

end Go.Proofs.YtlidhdljgnijaaaDoor

/-
  CONTRACTS of the program's red.way and Path.
-/
set_option linter.unusedVariables false
namespace Go.Proofs.YtlidhdljgnijaaaDoor
open Go.RowKit

def WayPost (w : World) (kind : Int) (ids : List Int) (ll : List (List Int)) (id : Int) (e : Ending) (w' : World) : Prop :=
  Below w.heap.size w w' ∧ ∃ A n c B m d, e = .returned (.tuple #[.slice A n c, .slice B m d, .int .i64 (pathE kind ids ll id)]) ∧ (pathE kind ids ll id = 0 → NdR w' w'.heap.size A n c (nodesI kind ids ll)) ∧ m ≤ d ∧ d ≤ maxLen ∧ Rd w' w'.heap.size B m (kidV (pathI kind ids ll id))
def lenV : Value → Nat
  | .slice _ n _ => n
  | _ => 0

set_option maxRecDepth 100000 in
set_option maxHeartbeats 4000000 in
theorem PWay_any (kind : Int) (Ai : Option Addr) (ni ci : Nat) (Al : Option Addr) (nl cl : Nat) (ids : List Int) (ll : List (List Int)) (id : Int) (w : World) (h : ShR w w.heap.size Ai ni ci Al nl cl ids ll) (hf : fewT ids ll = true) :
    Calls Tryd.prog 58 #[.int .i64 kind, .agg (shV Ai ni ci Al nl cl), .int .i64 id] w (WayPost w kind ids ll id) := by
  have hM := (Ms.nil w).box 25 (shV Ai ni ci Al nl cl)
  have hS1 := h.below hM.old
  have hnd := PNodes_any kind Ai ni ci Al nl cl ids ll _ (hS1.more hM.old.size) hf
  have Hpost := Lib.hid (show ∀ A n c B m d er w', Below w.heap.size w w' → er = pathE kind ids ll id → (er = 0 → NdR w' w'.heap.size A n c (nodesI kind ids ll)) → m ≤ d → d ≤ maxLen → Rd w' w'.heap.size B m (kidV (pathI kind ids ll id)) → WayPost w kind ids ll id (.returned (.tuple #[.slice A n c, .slice B m d, .int .i64 er])) w' from fun A n c B m d er w' h1 h2 h3 h4 h5 h6 => ⟨h1, A, n, c, B, m, d, by rw [h2], by rw [← h2]; exact h3, h4, h5, h6⟩)
  generalize WayPost w kind ids ll id = PO at *
  obtain ⟨er, her⟩ : ∃ er, er = mayE kind ids ll := ⟨_, rfl⟩
  have Her := Lib.hid her
  clear her h
  go_enter Tryd.func58, Tryd.ntmps58
  go_wp2_with ((with_reducible show wpList _ _ _ (⟨some 17, _, _, _, _, _⟩ :: _) _ _); refine wpList_loadC (by kernel_rfl) 25 (.tmp 4) rfl w.heap.size rfl 25 (shV Ai ni ci Al nl cl) _ (hM.get 0 rfl) Tryd.underlying25 rfl shapeInfo2 ?_)
  refine hnd.mono ?_
  rintro e w1 ⟨hb1, A, n, c, rfl, hN⟩
  rw [← Her.out]
  have hM1 := hM.call hb1
  have hS2 := hS1.below (hb1.mono hM.old.size)
  clear hM hb1 hnd hS1
  have hold := hM1.old
  have hmay : (mayB kind ids ll = false ∧ er = 1) ∨ (mayB kind ids ll = true ∧ er = 0) := by
    rw [Her.out, mayE]
    cases mayB kind ids ll <;> simp
  rcases hmay with ⟨hmb, rfl⟩ | ⟨hmb, rfl⟩
  · have Hc := Lib.hid (show (1 : Int) = pathE kind ids ll id by rw [pathE, hmb]; rfl)
    have Hn := Lib.hid (show pathI kind ids ll id = [] by rw [pathI, hmb]; rfl)
    have hz : Rd w1 w1.heap.size none 0 (kidV (pathI kind ids ll id)) := by rw [Hn.out]; exact Rd.zero _ _ _
    have h10 : (1 : Int) = 0 → NdR w1 w1.heap.size none 0 0 (nodesI kind ids ll) := fun h => absurd h (by decide)
    clear hM1 hN hS2 hmb
    go_wp2_with fail
    (first | exact Hpost.out _ _ _ _ _ _ _ _ hold Hc.out h10 (Nat.le_refl _) (by simp [maxLen]) hz | (refine bodyPost_ret (results_tmp3 rfl _ _ _) rfl ?_; exact Hpost.out _ _ _ _ _ _ _ _ hold Hc.out h10 (Nat.le_refl _) (by simp [maxLen]) hz))
  · have hfd := PFind_any Ai ni ci Al nl cl ids id w1 hS2.hni hS2.hci hS2.hmi (hS2.hids.more hold.size)
    have Hmb := Lib.hid hmb
    have Hble := Lib.hid (belT_le ids id)
    obtain ⟨p, hp⟩ : ∃ p, p = belT ids id := ⟨_, rfl⟩
    obtain ⟨ti, hti⟩ : ∃ ti, ti = isT ids id := ⟨_, rfl⟩
    rw [← hp, ← hti] at hfd
    have Hp := Lib.hid hp
    have Hti := Lib.hid hti
    clear hp hti hmb
    go_wp2_with ((with_reducible show wpList _ _ _ (⟨some 25, _, _, _, _, _⟩ :: _) _ _); refine wpList_loadC (by kernel_rfl) 25 (.tmp 4) rfl w.heap.size rfl 25 (shV Ai ni ci Al nl cl) _ (hM1.get 0 rfl) Tryd.underlying25 rfl shapeInfo2 ?_)
    refine hfd.mono ?_
    rintro e w2 ⟨rfl, hb2⟩
    have hold2 := hold.trans (hb2.mono hold.size)
    have hN2 := (hN.below hb2).more hb2.size
    clear hM1 hfd hS2 hold hN hb2
    cases ti with
    | false =>
      have Hc := Lib.hid (show (6 : Int) = pathE kind ids ll id by rw [pathE, Hmb.out, ← Hti.out]; rfl)
      have Hn := Lib.hid (show pathI kind ids ll id = [] by rw [pathI, ← Hti.out, if_neg (by simp)])
      have hz : Rd w2 w2.heap.size none 0 (kidV (pathI kind ids ll id)) := by rw [Hn.out]; exact Rd.zero _ _ _
      have h60 : (6 : Int) = 0 → NdR w2 w2.heap.size none 0 0 (nodesI kind ids ll) := fun h => absurd h (by decide)
      clear hN2
      go_wp2_with fail
      (first | exact Hpost.out _ _ _ _ _ _ _ _ hold2 Hc.out h60 (Nat.le_refl _) (by simp [maxLen]) hz | (refine bodyPost_ret (results_tmp3 rfl _ _ _) rfl ?_; exact Hpost.out _ _ _ _ _ _ _ _ hold2 Hc.out h60 (Nat.le_refl _) (by simp [maxLen]) hz))
    | true =>
      have Hc := Lib.hid (show (0 : Int) = pathE kind ids ll id by rw [pathE, Hmb.out, ← Hti.out]; rfl)
      have h0 : 0 < ids.length := by
        have := Hti.out
        cases ids with
        | nil => simp [isT] at this
        | cons x l => simp
      have hT := top_facts Hmb.out h0
      obtain ⟨hpa, hpl⟩ := path_top hT Hmb.out Hti.out.symm
      rw [← Hp.out] at hpa hpl
      have hW := way_top hT hpl
      have hP2 := pathI_len kind ids ll id
      have hnod := hT.nodes
      have hsz := nodesU_len kind ids ll
      generalize nodesI kind ids ll = NS at *
      generalize pathI kind ids ll id = P at *
      subst hpa hnod
      generalize (treeOf kind (lvN ll) (lvN ll).length 0).path 0 p = P at *
      generalize (treeOf kind (lvN ll) (lvN ll).length 0).flat 0 (-1) = L at *
      obtain ⟨a, t, x, e1, e2, e3, e4, e5, e6⟩ := hW.first
      have hnn := hN2.len
      have hn2 : n ≤ 2000 := by omega
      have hlf := PLeaf_any A n c (L.map RN.i) (p : Int) a x.i w2 hN2 (by rw [List.getElem?_map, e2]; rfl) (by simp [leafB, RN.i, e3, e4]) (fun i y hi hy => by
        rw [List.getElem?_map] at hy
        obtain ⟨z, hz, rfl⟩ := Option.map_eq_some_iff.1 hy
        have := e6 i z hi hz
        simp only [leafB, RN.i, Bool.and_eq_false_iff, beq_eq_false_iff_ne]
        omega) (by omega)
      have Hch := Lib.hid hW.chain
      have Hat := Lib.hid (show ∀ j (hj : j < P.length), ∃ y, L[P[j]]? = some y ∧ y.up = nextU (P.drop (j + 1)) (-1) from fun j hj => chainP_at L (-1) P j hW.chain hj)
      have Hst := Lib.hid (show ((a : Nat) : Int) = nextU (P.drop 0) (-1) by rw [e1]; rfl)
      have Hn := Lib.hid hnn
      have Hl2 := Lib.hid hsz
      obtain ⟨i0, hi0, hz0, hz1, hz2⟩ := info_parts intInfo
      clear hW hpl e1 e2 e3 e4 e5 e6 hT hnn hsz h0
      go_wp2_with fail
      refine hlf.mono ?_
      rintro e w3 ⟨rfl, hb3⟩
      have hold3 := hold2.trans (hb3.mono hold2.size)
      have hN3 := (hN2.below hb3).more hb3.size
      clear hlf hN2 hold2 hb3
      rw [Hst.out]
      go_wp2_with fail
      go_loopw [13, 14] (fun v13 v14 wr => ∃ j : Nat, j ≤ P.length ∧ v14 = .int .i64 (nextU (P.drop j) (-1)) ∧ Ms w3 wr [] ∧ wr.ownsRow w3.heap.size 3 1 v13 j (kidV (P.take j))) (fun v13 _ _ => P.length - lenV v13)
      case atStart => exact ⟨0, by omega, rfl, Ms.nil _, World.ownsRow_nil _ _ _ _⟩
      case round =>
        obtain ⟨j, hj, rfl, hM, hown⟩ := hrel
        have hold5 := hM.old
        obtain ⟨A1, c1, hv1, _, _⟩ := own_formT hown
        subst hv1
        by_cases hjn : j < P.length
        · obtain ⟨y, hy, hyu⟩ := Hat.out j hjn
          have Hd := Lib.hid (show nextU (P.drop j) (-1) = ((P[j] : Nat) : Int) by rw [List.drop_eq_getElem_cons hjn]; rfl)
          rw [Hd.out]
          have Htk := Lib.hid (show P.take (j + 1) = P.take j ++ [P[j]] from List.take_succ_eq_append_getElem hjn)
          obtain ⟨b, o, Au, cu, rfl, hbb, hrg, _, _, _⟩ := (hN3.below hold5).range (k := P[j]) (x := y.i) (by rw [List.getElem?_map, hy]; rfl)
          have hqn : P[j] < L.length := (List.getElem?_eq_some_iff.1 hy).1
          generalize P[j] = q at *
          have zq : (q : Int) < (n : Int) := by
            have h1 := Hn.out
            rw [List.length_map] at h1
            omega
          have zq1 : ((q : Int) != -1) = true := by simp only [bne_iff_ne, ne_eq]; omega
          have hal := d_al wr (.cells #[iv (q : Nat)] 3)
          clear hy Hd hqn
          go_wp2_with (at_builtin; refine wpList_append_rd _ rfl (.tmp 42) (.tmp 44) _ rfl w3.heap.size 3 i0 _ 8 Tryd.underlying22 hi0 hz0 hz1 hz2 rfl (.slice A1 j c1) j _ rfl (own_below hown hal) (wr.heap.size + 1) (some ⟨wr.heap.size, 0, none⟩) 1 1 [iv (q : Nat)] rfl (Rd.mk_ _ _ _ rfl (by omega) rfl rfl) (one_ivn [q]) (by simp only [maxLen]; omega) (by omega) (by have := hold5.size; rw [World.size_alloc]; omega) ?_; intro v6 w6 hown6 hgr6 hat6; have hold6 : Below w3.heap.size w3 w6 := (hold5.trans (hal.mono hold5.size)).grown hgr6 (by have := hold5.size; rw [World.size_alloc]; omega) (own_blockT hown); have c6 : w6.cell? ⟨b, o + q * 7 + 6, none⟩ = some (.int .i64 y.up) := (World.cell?_of_block (a := ⟨b, o + q * 7 + 6, none⟩) ((hold6.block b hbb).trans (hold5.block b hbb).symm)).trans (hrg 6 (.int .i64 y.up) rfl))
          have hown7 : w6.ownsRow w3.heap.size 3 1 v6 (j + 1) (kidV (P.take (j + 1))) := by
            rw [Htk.out, kidV, List.map_append]
            exact hown6
          obtain ⟨A7, c7, hv7, _, _⟩ := own_formT hown7
          subst hv7
          go_roundw
          case rel => exact ⟨j + 1, by omega, rfl, ⟨hold6, fun q hq => by simp at hq⟩, hown7⟩
          case measure => simp only [lenV]; omega
        · obtain rfl : j = P.length := by omega
          rw [List.drop_length, List.take_length] at *
          have hfin : Below w.heap.size w wr := hold3.trans (hold5.mono hold3.size)
          have hN5 := (hN3.below hold5).more hold5.size
          obtain ⟨_, _, e1, hc7, hm7⟩ := own_formT hown
          injection e1 with e1 e2 e3
          subst e1 e3
          have hrd : Rd wr wr.heap.size A1 P.length (kidV P) := Rd.of_own hown
          simp only [nextU]
          clear hM hown
          go_wp2_with fail
          (first | exact Hpost.out _ _ _ _ _ _ _ _ hfin Hc.out (fun _ => hN5) hc7 hm7 hrd | (refine bodyPost_ret (results_tmp3 rfl _ _ _) rfl ?_; exact Hpost.out _ _ _ _ _ _ _ _ hfin Hc.out (fun _ => hN5) hc7 hm7 hrd))

set_option maxRecDepth 100000 in
theorem PPath_any11 (kind : Int) (Ai : Option Addr) (ni ci : Nat) (Al : Option Addr) (nl cl : Nat) (ids : List Int) (ll : List (List Int)) (id : Int) (w : World) (h : ShR w w.heap.size Ai ni ci Al nl cl ids ll) (hf : fewT ids ll = true) :
    Calls Tryd.prog 32 #[.int .i64 kind, .agg (shV Ai ni ci Al nl cl), .int .i64 id] w (Path11Post w kind ids ll id) := by
  have hM := (Ms.nil w).box 25 (shV Ai ni ci Al nl cl)
  have hS1 := h.below hM.old
  have hwy := PWay_any kind Ai ni ci Al nl cl ids ll id _ (hS1.more hM.old.size) hf
  have hold := hM.old
  go_enter Tryd.func32, Tryd.ntmps32
  go_wp2_with ((with_reducible show wpList _ _ _ (⟨some 13, _, _, _, _, _⟩ :: _) _ _); refine wpList_loadC (by kernel_rfl) 25 (.tmp 4) rfl w.heap.size rfl 25 (shV Ai ni ci Al nl cl) _ (hM.get 0 rfl) Tryd.underlying25 rfl shapeInfo2 ?_)
  refine hwy.mono ?_
  rintro e w1 ⟨hb1, A, n, c, B, m, d, rfl, _, hmd, hdm, hrd⟩
  have hold1 := hold.trans (hb1.mono hold.size)
  clear hwy hM hS1
  go_wp2_with fail
  exact bodyPost_ret (results_tmp2 rfl _ _ _) rfl ⟨hold1, B, m, d, rfl, hmd, hdm, hrd⟩

end Go.Proofs.YtlidhdljgnijaaaDoor

