import Derived.Test.YtbickllpledlbaaG29
import Derived.Deep.RegionHeld3
/-
  CONTRACT of the document's Path (coterieref11).
-/
set_option linter.unusedVariables false
namespace Go.Proofs.Ytbickllpledlbaa
open Go.RowKit

def hasI (p : Int) (x : RI) : Bool := decide (x.fr ≤ p) && decide (p < x.to_)
def wayI (p : Int) : Nat → List RI → List Nat
  | _, [] => []
  | i, x :: l => if hasI p x = true then i :: wayI p (i + 1) l else wayI p (i + 1) l
theorem wayI_snoc (p : Int) : ∀ (i : Nat) (l : List RI) (x : RI), wayI p i (l ++ [x]) = wayI p i l ++ (if hasI p x = true then [i + l.length] else [])
  | i, [], x => by simp [wayI]
  | i, y :: l, x => by
    simp only [List.cons_append, wayI, wayI_snoc p (i + 1) l x, List.length_cons, show i + 1 + l.length = i + (l.length + 1) by omega]
    split <;> simp
theorem wayI_of (p : Nat) : ∀ (i : Nat) (l : List RN), wayI (p : Int) i (l.map RN.i) = wayOf p i l
  | _, [] => rfl
  | i, x :: l => by
    have e : hasI (p : Int) x.i = hasP p x := by simp [hasI, hasP, RN.i]
    simp only [List.map_cons, wayI, wayOf, wayI_of p (i + 1) l, e]
theorem wayI_len (p : Int) : ∀ (i : Nat) (l : List RI), (wayI p i l).length ≤ l.length
  | _, [] => by simp [wayI]
  | i, x :: l => by
    have := wayI_len p (i + 1) l
    rw [wayI]
    split <;> simp only [List.length_cons] <;> omega
/-- where a node's cells are -/
theorem NdR.range {w : World} {B : Nat} {A : Option Addr} {n c : Nat} {ns : List RI} (h : NdR w B A n c ns) {k : Nat} {x : RI} (hk : ns[k]? = some x) :
    ∃ b o Au cu, A = some ⟨b, o, none⟩ ∧ b < B ∧ w.rangeAt b (o + k * 7) (riC x (.slice Au x.kids.length cu)) ∧ x.kids.length ≤ cu ∧ cu ≤ maxLen ∧ Rd w B Au x.kids.length (x.kids.map iv) := by
  obtain ⟨us, h1, h2, h3⟩ := h.told
  have hkn : k < n := by have := (List.getElem?_eq_some_iff.1 hk).1; have := h.len; omega
  have hu : us[k]? = some us[k] := List.getElem?_eq_getElem (by omega)
  obtain ⟨Au, cu, e1, e2, e3, e4⟩ := h3 k x _ hk hu
  obtain ⟨b, o, rfl, hb, hc⟩ := h2.pos (by omega)
  refine ⟨b, o, Au, cu, rfl, hb, fun j u hj => ?_, e2, e3, e4⟩
  rw [← e1] at hj
  have hj7 : j < 7 := (List.getElem?_eq_some_iff.1 hj).1
  rw [Nat.add_assoc]
  refine hc (k * 7 + j) u ?_
  rw [cellsI_at ns us k j x _ (by rw [h1, h.len]) hk hu hj7]
  exact hj
def pathE (kind : Int) (ids : List Int) (ll : List (List Int)) (id : Int) : Int := if mayB kind ids ll = true then (if isT ids id = true then 0 else 6) else 1
def pathI (kind : Int) (ids : List Int) (ll : List (List Int)) (id : Int) : List Nat := if mayB kind ids ll = true ∧ isT ids id = true then wayI (belT ids id : Nat) 0 (nodesI kind ids ll) else []
def Path11Post (w : World) (kind : Int) (ids : List Int) (ll : List (List Int)) (id : Int) (e : Ending) (w' : World) : Prop :=
  Below w.heap.size w w' ∧ ∃ A n c, e = .returned (.tuple #[.slice A n c, .int .i64 (pathE kind ids ll id)]) ∧ n ≤ c ∧ c ≤ maxLen ∧ Rd w' w'.heap.size A n (kidV (pathI kind ids ll id))
def zN : Array Value := #[.int .i64 0, .int .i64 0, .bool false, .int .i64 0, .int .i64 0, .slice none 0 0, .int .i64 0]
theorem nodesU_len (kind : Int) (ids : List Int) (ll : List (List Int)) : (nodesI kind ids ll).length ≤ 2000 := by
  rw [nodesI]
  split
  · rename_i h
    rw [mayB, Bool.and_eq_true] at h
    obtain ⟨h1, _, h3, _⟩ := chkT_lv h.2
    have hs := lvOK_sum _ _ h3
    rw [List.length_map, nodesU]
    split
    · simp
    · rename_i h0
      rw [RT.flat_len]
      have := treeOf_size (kind := kind) hs (Nat.le_refl _) (wideN_pos hs (by omega) _ (Nat.le_refl _))
      omega
  · simp

set_option maxRecDepth 100000 in
set_option maxHeartbeats 4000000 in
theorem Path11_any (kind : Int) (Ai : Option Addr) (ni ci : Nat) (Al : Option Addr) (nl cl : Nat) (ids : List Int) (ll : List (List Int)) (id : Int) (w : World) (h : ShR w w.heap.size Ai ni ci Al nl cl ids ll) (hf : fewT ids ll = true) :
    Calls Try.prog 14 #[.int .i64 kind, .agg (shV Ai ni ci Al nl cl), .int .i64 id] w (Path11Post w kind ids ll id) := by
  have hM := (Ms.nil w).box 25 (shV Ai ni ci Al nl cl)
  have hS1 := h.below hM.old
  have hmy := May_any kind Ai ni ci Al nl cl ids ll _ (hS1.more hM.old.size) hf
  have Hpost := Lib.hid (show ∀ A n c er w', Below w.heap.size w w' → er = pathE kind ids ll id → n ≤ c → c ≤ maxLen → Rd w' w'.heap.size A n (kidV (pathI kind ids ll id)) → Path11Post w kind ids ll id (.returned (.tuple #[.slice A n c, .int .i64 er])) w' from fun A n c er w' h1 h2 h3 h4 h5 => ⟨h1, A, n, c, by rw [h2], h3, h4, h5⟩)
  generalize Path11Post w kind ids ll id = PO at *
  obtain ⟨mb, hmb⟩ : ∃ mb, mb = mayB kind ids ll := ⟨_, rfl⟩
  rw [← hmb] at hmy
  have Hmb := Lib.hid hmb
  have Hf := Lib.hid hf
  clear hmb hf
  go_enter Try.func14, Try.ntmps14
  go_wp2_with ((with_reducible show wpList _ _ _ (⟨some 16, _, _, _, _, _⟩ :: _) _ _); refine wpList_loadC (by kernel_rfl) 25 (.tmp 4) rfl w.heap.size rfl 25 (shV Ai ni ci Al nl cl) _ (hM.get 0 rfl) Try.underlying25 rfl shapeInfo2 ?_)
  refine hmy.mono ?_
  rintro e w1 ⟨rfl, hb1⟩
  have hM1 := hM.call hb1
  have hS2 := hS1.below (hb1.mono hM.old.size)
  clear hM hb1 hmy hS1
  have hold := hM1.old
  cases mb with
  | false =>
    have Hc := Lib.hid (show (1 : Int) = pathE kind ids ll id by rw [pathE, ← Hmb.out]; rfl)
    have Hn := Lib.hid (show pathI kind ids ll id = [] by rw [pathI, ← Hmb.out]; rfl)
    have hz : Rd w1 w1.heap.size none 0 (kidV (pathI kind ids ll id)) := by rw [Hn.out]; exact Rd.zero _ _ _
    clear hM1
    go_wp2_with fail
    (first | exact Hpost.out _ _ _ _ _ hold Hc.out (Nat.le_refl _) (by simp [maxLen]) hz | exact bodyPost_ret (results_tmp2 rfl _ _ _) rfl (Hpost.out _ _ _ _ _ hold Hc.out (Nat.le_refl _) (by simp [maxLen]) hz))
  | true =>
    have hfd := Find_any Ai ni ci Al nl cl ids id w1 hS2.hni hS2.hci hS2.hmi (hS2.hids.more hold.size)
    have Hble := Lib.hid (belT_le ids id)
    obtain ⟨p, hp⟩ : ∃ p, p = belT ids id := ⟨_, rfl⟩
    obtain ⟨ti, hti⟩ : ∃ ti, ti = isT ids id := ⟨_, rfl⟩
    rw [← hp, ← hti] at hfd
    have Hp := Lib.hid hp
    have Hti := Lib.hid hti
    clear hp hti
    go_wp2_with ((with_reducible show wpList _ _ _ (⟨some 20, _, _, _, _, _⟩ :: _) _ _); refine wpList_loadC (by kernel_rfl) 25 (.tmp 4) rfl w.heap.size rfl 25 (shV Ai ni ci Al nl cl) _ (hM1.get 0 rfl) Try.underlying25 rfl shapeInfo2 ?_)
    refine hfd.mono ?_
    rintro e w2 ⟨rfl, hb2⟩
    have hM2 := hM1.call hb2
    have hS3 := hS2.below (hb2.mono hold.size)
    clear hM1 hb2 hfd hS2 hold
    have hold := hM2.old
    cases ti with
    | false =>
      have Hc := Lib.hid (show (6 : Int) = pathE kind ids ll id by rw [pathE, ← Hmb.out, ← Hti.out]; rfl)
      have Hn := Lib.hid (show pathI kind ids ll id = [] by rw [pathI, ← Hti.out, if_neg (by simp)])
      have hz : Rd w2 w2.heap.size none 0 (kidV (pathI kind ids ll id)) := by rw [Hn.out]; exact Rd.zero _ _ _
      clear hM2
      go_wp2_with fail
      (first | exact Hpost.out _ _ _ _ _ hold Hc.out (Nat.le_refl _) (by simp [maxLen]) hz | exact bodyPost_ret (results_tmp2 rfl _ _ _) rfl (Hpost.out _ _ _ _ _ hold Hc.out (Nat.le_refl _) (by simp [maxLen]) hz))
    | true =>
      have Hc := Lib.hid (show (0 : Int) = pathE kind ids ll id by rw [pathE, ← Hmb.out, ← Hti.out]; rfl)
      have Hn := Lib.hid (show pathI kind ids ll id = wayI (p : Nat) 0 (nodesI kind ids ll) by rw [pathI, if_pos ⟨Hmb.out.symm, Hti.out.symm⟩, Hp.out])
      have hnd := Nodes11_any kind Ai ni ci Al nl cl ids ll w2 (hS3.more hold.size) Hf.out
      have Hlen := Lib.hid (nodesU_len kind ids ll)
      go_wp2_with ((with_reducible show wpList _ _ _ (⟨some 29, _, _, _, _, _⟩ :: _) _ _); refine wpList_loadC (by kernel_rfl) 25 (.tmp 4) rfl w.heap.size rfl 25 (shV Ai ni ci Al nl cl) _ (hM2.get 0 rfl) Try.underlying25 rfl shapeInfo2 ?_)
      refine hnd.mono ?_
      rintro e w3 ⟨hb3, A, n, c, rfl, hN⟩
      have hold3 := hold.trans (hb3.mono hold.size)
      generalize nodesI kind ids ll = ns at *
      have hnn := hN.len
      have hn2 : n ≤ 2000 := by rw [← hnn]; exact Hlen.out
      have Hnn := Lib.hid hnn
      obtain ⟨i0, hi0, hz0, hz1, hz2⟩ := info_parts intInfo
      clear hnd hM2 hS3 hold hb3 hnn
      go_wp2_with fail
      go_loopw [12, 35] (fun v12 v35 wr => ∃ j : Nat, j ≤ n ∧ v35 = .int .i64 (j : Int) ∧ Ms w3 wr [] ∧ wr.ownsRow w3.heap.size 3 1 v12 (wayI (p : Nat) 0 (ns.take j)).length (kidV (wayI (p : Nat) 0 (ns.take j)))) (fun _ v35 _ => n - (intOf v35).toNat)
      case atStart => exact ⟨0, by omega, rfl, Ms.nil _, World.ownsRow_nil _ _ _ _⟩
      case round =>
        obtain ⟨j, hj, rfl, hM, hown⟩ := hrel
        by_cases hjn : j < n
        · have hjx : j < ns.length := by rw [Hnn.out]; exact hjn
          have hx : ns[j]? = some ns[j] := List.getElem?_eq_getElem hjx
          have Htk := Lib.hid (show wayI (p : Nat) 0 (ns.take (j + 1)) = wayI (p : Nat) 0 (ns.take j) ++ (if hasI (p : Nat) ns[j] = true then [j] else []) by
            rw [List.take_succ_eq_append_getElem hjx, wayI_snoc, List.length_take, Nat.zero_add, Nat.min_eq_left (by omega)])
          have Hwl := Lib.hid (show (wayI (p : Nat) 0 (ns.take j)).length ≤ 2000 by
            have := wayI_len (p : Nat) 0 (ns.take j)
            rw [List.length_take] at this
            omega)
          generalize ns[j] = x at *
          obtain ⟨b, o, Au, cu, rfl, hbb, hrg, _, _, _⟩ := (hN.below hM.old).range hx
          have hP := hM.put 42 zN (riC x (.slice Au x.kids.length cu)).toArray
          have hownP := own_below hown (below_setRow ((Below.refl wr.heap.size wr).alloc (Nat.le_refl _) (.cells zN 42)) (Nat.le_refl _) (riC x (.slice Au x.kids.length cu)).toArray)
          have hszP : wr.heap.size < ((wr.alloc (.cells zN 42)).setRow wr.heap.size (riC x (.slice Au x.kids.length cu)).toArray).heap.size := (hP.get 0 rfl).lt
          have zj : (j : Int) < (n : Int) := by omega
          go_upto_region 11 with (first
            | ((with_reducible show wpList _ _ _ (⟨some 39, _, _, _, _, _⟩ :: _) _ _); refine wpList_load_midG (by kernel_rfl) 42 (.tmp 38) rfl b (o + j * 7) rfl (riC x (.slice Au x.kids.length cu)) _ hrg Try.underlying42 rfl rnInfo2 ?_)
            | ((with_reducible show wpList _ _ _ (⟨none, Op.store 42 _ _, _, _, _, _⟩ :: _) _ _); refine wpList_store_row rfl 42 (.tmp 14) (.tmp 39) rfl wr.heap.size (riC x (.slice Au x.kids.length cu)).toArray rfl rfl 42 zN (RowC.new _ _ _) rnInfo2 rfl (by simp [riC, Value.oneCell']) ?_))
          try simp only [Act.put]
          refine wp_gen (fun wx => Ms w3 wx [(wr.heap.size, 42, (riC x (.slice Au x.kids.length cu)).toArray)] ∧ wx.ownsRow w3.heap.size 3 1 u12 (wayI (p : Nat) 0 (ns.take j)).length (kidV (wayI (p : Nat) 0 (ns.take j)))) ⟨hP, hownP⟩ ?_
          clear hP hownP hszP hM hown hrg hx
          rintro w5 ⟨hP, hown⟩
          have k3 := (hP.get 0 rfl).cell (i := 3) (v := .int .i64 x.fr) rfl
          have k4 := (hP.get 0 rfl).cell (i := 4) (v := .int .i64 x.to_) rfl
          have hold5 := hP.old
          by_cases h1 : x.fr ≤ (p : Int)
          · by_cases h2 : (p : Int) < x.to_
            · have hyes : hasI (p : Nat) x = true := by rw [hasI, decide_eq_true h1, decide_eq_true h2]; rfl
              have Ht2 := Lib.hid (show wayI (p : Nat) 0 (ns.take (j + 1)) = wayI (p : Nat) 0 (ns.take j) ++ [j] by rw [Htk.out, if_pos hyes])
              have hal := d_al w5 (.cells #[iv (j : Nat)] 3)
              go_wp2_with (at_builtin; refine wpList_append_rd _ rfl (.tmp 50) (.tmp 52) _ rfl w3.heap.size 3 i0 _ 8 Try.underlying22 hi0 hz0 hz1 hz2 rfl u12 (wayI (p : Nat) 0 (ns.take j)).length _ rfl (own_below hown hal) (w5.heap.size + 1) (some ⟨w5.heap.size, 0, none⟩) 1 1 [iv (j : Nat)] rfl (Rd.mk_ _ _ _ rfl (by omega) rfl rfl) (one_ivn [j]) (by have := Hwl.out; simp only [maxLen]; omega) (by have := Hwl.out; omega) (by have := hold5.size; rw [World.size_alloc]; omega) ?_; intro v6 w6 hown6 hgr6 _)
              have hold6 : Below w3.heap.size w3 w6 := (hold5.trans (hal.mono hold5.size)).grown hgr6 (by have := hold5.size; rw [World.size_alloc]; omega) (own_blockT hown)
              have hown7 : w6.ownsRow w3.heap.size 3 1 v6 (wayI (p : Nat) 0 (ns.take (j + 1))).length (kidV (wayI (p : Nat) 0 (ns.take (j + 1)))) := by
                rw [Ht2.out, List.length_append, kidV, List.map_append]
                exact hown6
              go_roundw
              case rel => exact ⟨j + 1, by omega, by go_num, ⟨hold6, fun q hq => by simp at hq⟩, hown7⟩
              case measure => simp [intOf]; omega
            · have hno : ¬ hasI (p : Nat) x = true := by rw [hasI, decide_eq_false h2]; simp
              have hown7 : w5.ownsRow w3.heap.size 3 1 u12 (wayI (p : Nat) 0 (ns.take (j + 1))).length (kidV (wayI (p : Nat) 0 (ns.take (j + 1)))) := by
                rw [Htk.out, if_neg hno, List.append_nil]
                exact hown
              go_wp2_with fail
              go_roundw
              case rel => exact ⟨j + 1, by omega, by go_num, ⟨hold5, fun q hq => by simp at hq⟩, hown7⟩
              case measure => simp [intOf]; omega
          · have hno : ¬ hasI (p : Nat) x = true := by rw [hasI, decide_eq_false h1]; simp
            have hown7 : w5.ownsRow w3.heap.size 3 1 u12 (wayI (p : Nat) 0 (ns.take (j + 1))).length (kidV (wayI (p : Nat) 0 (ns.take (j + 1)))) := by
              rw [Htk.out, if_neg hno, List.append_nil]
              exact hown
            go_wp2_with fail
            go_roundw
            case rel => exact ⟨j + 1, by omega, by go_num, ⟨hold5, fun q hq => by simp at hq⟩, hown7⟩
            case measure => simp [intOf]; omega
        · obtain rfl : n = j := by omega
          rw [← Hnn.out, List.take_length] at hown
          rw [← Hn.out] at hown
          obtain ⟨A9, c9, rfl, hc9, hm9⟩ := own_formT hown
          have hfin := Rd.of_own hown
          have hold9 := hold3.trans (hM.old.mono hold3.size)
          clear hown hM
          go_wp2_with fail
          (first | exact Hpost.out _ _ _ _ _ hold9 Hc.out hc9 hm9 hfin | exact bodyPost_ret (results_tmp2 rfl _ _ _) rfl (Hpost.out _ _ _ _ _ hold9 Hc.out hc9 hm9 hfin))

end Go.Proofs.Ytbickllpledlbaa

/-
  CONTRACT of the closure of the program's red.told at a level above the leaves, by those below. Printed by gen_redpd.py.
-/
set_option linter.unusedVariables false
namespace Go.Proofs.Ytbickllpledlbaa
open Go.RowKit

theorem flats_two (ns : List RN) (A B : RT) : (ns ++ A.flat ns.length (-1)) ++ B.flat (ns ++ A.flat ns.length (-1)).length (-1) = ns ++ flats [A, B] ns.length := by
  rw [List.length_append, RT.flat_len]
  simp [flats, List.append_assoc]
theorem flats_three (ns : List RN) (A B C : RT) : (ns ++ flats [A, B] ns.length) ++ C.flat (ns ++ flats [A, B] ns.length).length (-1) = ns ++ flats [A, B, C] ns.length := by
  rw [List.length_append, flats_len]
  simp [flats, sizes, List.append_assoc, Nat.add_assoc]

set_option maxRecDepth 100000 in
set_option maxHeartbeats 4000000 in
theorem PTellStep_any (base b0 bN gN bO bT bS bK : Nat) (kind : Int) (hk12 : kind = 1 ∨ kind = 2) (Ai : Option Addr) (ni ci : Nat) (Al : Option Addr) (nl cl : Nat) (ids : List Int) (lv : List (List Nat)) (L k a m : Nat) (hL : L = k + 1) (l : List Nat) (hl : lv[k]? = some l) (h23 : two3 l) (ha : a < l.length) (hsum : l.sum ≤ 1000) (hlen : l.length ≤ 1000) (hk : k ≤ 1000) (hkm : k + 1 < m) (hmm : m ≤ 2000) (w0 : World)
    (hS0 : ShR w0 base Ai ni ci Al nl cl ids (levI lv))
    (IH : ∀ b, b < l.sum → ∀ (f : Nat → Nat) (v : Value) (ns : List RN) (us : List Value) (w : World) (q : Nat), TS base b0 bN gN bO bT bS bK kind (shV Ai ni ci Al nl cl) m w0 w (stepF lv k b f) v v ns us → q + 1 = ns.length + (treeOf kind lv k b).size → q < 100000 →
      Calls Try.prog 39 #[.int .i64 (k : Nat), .pointer (some ⟨bN, 0, none⟩), .pointer (some ⟨bO, 0, none⟩), .pointer (some ⟨bT, 0, none⟩), .pointer (some ⟨bS, 0, none⟩), .pointer (some ⟨bK, 0, none⟩)] w (TellPost base b0 bN gN bO bT bS bK kind (shV Ai ni ci Al nl cl) m w0 w (stepF lv k (b + 1) f) v ns (treeOf kind lv k b) q))
    (f : Nat → Nat) (v : Value) (ns : List RN) (us : List Value) (w : World) (q : Nat) (h : TS base b0 bN gN bO bT bS bK kind (shV Ai ni ci Al nl cl) m w0 w (stepF lv (k + 1) a f) v v ns us) (hq : q + 1 = ns.length + (treeOf kind lv (k + 1) a).size) (hqq : q < 100000) :
    Calls Try.prog 39 #[.int .i64 (L : Nat), .pointer (some ⟨bN, 0, none⟩), .pointer (some ⟨bO, 0, none⟩), .pointer (some ⟨bT, 0, none⟩), .pointer (some ⟨bS, 0, none⟩), .pointer (some ⟨bK, 0, none⟩)] w (TellPost base b0 bN gN bO bT bS bK kind (shV Ai ni ci Al nl cl) m w0 w (stepF lv (k + 1) (a + 1) f) v ns (treeOf kind lv (k + 1) a) q) := by
  have hll : k < (levI lv).length := by rw [levI_lenX]; exact (List.getElem?_eq_some_iff.1 hl).1
  have hlk : (levI lv)[k] = castL l := by have := levI_get hl; rw [List.getElem?_eq_getElem hll] at this; exact Option.some.inj this
  have hkn : k < nl := by rw [← hS0.hnl]; exact hll
  have hcl := hS0.hcl
  have hml := hS0.hml
  obtain ⟨vs, hv, hlv⟩ := hS0.lvs
  obtain ⟨A0, c0, hv0, hc0, hm0, hr0⟩ := hlv.get hll
  rw [hlk, castL_len] at hv0 hc0 hr0
  have hm23 := two3_get h23 ha
  have hsa := startT_succ l ha
  have hca : ((castL l).map iv)[a]? = some (.int .i64 ((l[a] : Nat) : Int)) := by rw [castL, List.getElem?_map, List.getElem?_map, List.getElem?_eq_getElem ha]; rfl
  have hle := startT_le l (a + 1)
  have hg : lv.getD k [] = l := getD_at hl
  have hx : l.getD a 0 = l[a] := getD_at (List.getElem?_eq_getElem ha)
  have hTT := treeOf.eq_2 kind lv a k
  rw [hg, hx] at hTT
  obtain ⟨T, hT⟩ : ∃ T, T = treeOf kind lv (k + 1) a := ⟨_, rfl⟩
  rw [← hT] at hq hTT ⊢
  obtain ⟨st, hst⟩ : ∃ st, st = startT l a := ⟨_, rfl⟩
  have hgo : startT (lv.getD k []) (a + 1) = st + l[a] := by rw [hg, hst, hsa]
  have Hout := Lib.hid (stepF_out lv k a f)
  rw [hgo] at Hout
  have h1 := h.count (k + 1) (a + 1)
  rw [stepF_in, hg, ← hst] at h1
  rw [← hst] at hTT hsa
  rw [hsa] at hle
  have hm1 : MV gN bO v w v (w.setCell ⟨gN, k + 1, none⟩ (.int .i64 ((a + 1 : Nat) : Int))) := MV.count
  obtain ⟨T0, hT0⟩ : ∃ T0, T0 = treeOf kind lv k st := ⟨_, rfl⟩
  obtain ⟨T1, hT1⟩ : ∃ T1, T1 = treeOf kind lv k (st + 1) := ⟨_, rfl⟩
  obtain ⟨T2, hT2⟩ : ∃ T2, T2 = treeOf kind lv k (st + 2) := ⟨_, rfl⟩
  obtain ⟨g, hgg⟩ : ∃ g, g = stepF lv (k + 1) (a + 1) f := ⟨_, rfl⟩
  rw [← hT0, ← hT1, ← hT2] at hTT
  rw [← hgg] at h1 Hout ⊢
  obtain ⟨n2, hn2⟩ : ∃ n2, n2 = l[a] := ⟨_, rfl⟩
  rw [← hn2] at hTT hm23 hle hca Hout
  have hsz : T0.size + T1.size + 1 ≤ T.size := by
    rcases hm23 with e | e
    · rw [hTT, if_neg (by omega)]; simp [RT.size]
    · rw [hTT, if_pos e]
      split <;> simp only [RT.size] <;> omega
  have hst1000 : st + n2 ≤ l.sum := hle
  have IH0 := IH st (by omega)
  have IH1 := IH (st + 1) (by omega)
  have HIH2 := Lib.hid (fun (h3 : n2 = 3) => IH (st + 2) (by omega))
  rw [← hT0] at IH0
  rw [← hT1] at IH1
  rw [← hT2] at HIH2
  have p0' := T0.size_pos
  have p1' := T1.size_pos
  obtain ⟨p0, hp0⟩ : ∃ p0, p0 + 1 = ns.length + T0.size := ⟨ns.length + T0.size - 1, by omega⟩
  obtain ⟨p1, hp1⟩ : ∃ p1, p1 + 1 = ns.length + T0.size + T1.size := ⟨ns.length + T0.size + T1.size - 1, by omega⟩
  have c1 := h.rN.cell (i := 0) (v := .slice (some ⟨gN, 0, none⟩) m m) rfl
  have c2 := h.rG.cell (cntC_at _ hkm)
  rw [stepF_top] at c2
  have f2 := h.rG.frozen (k + 1)
  have z0 : ((k + 1 : Nat) : Int) < (m : Int) := by omega
  have z0' : (k : Int) + 1 < (m : Int) := by omega
  have z1 : IntKind.i64.wrap ((a : Int) + 1) = (a : Int) + 1 := by rw [IntKind.wrap_i64]; omega
  have zm : ¬ m = 0 := by omega
  have Hpost := Lib.hid (show ∀ v' us' w' F T' n, F = g → T' = T → n = (q : Int) → TS base b0 bN gN bO bT bS bK kind (shV Ai ni ci Al nl cl) m w0 w' F v' v' (ns ++ T'.flat ns.length (-1)) us' → MV gN bO v w v' w' → TellPost base b0 bN gN bO bT bS bK kind (shV Ai ni ci Al nl cl) m w0 w g v ns T q (.returned (.int .i64 n)) w' from fun v' us' w' F T' n e1 e2 e3 q1 q2 => ⟨v', us', by rw [e3], by rw [← e1, ← e2]; exact q1, q2⟩)
  generalize TellPost base b0 bN gN bO bT bS bK kind (shV Ai ni ci Al nl cl) m w0 w g v ns T q = PO at *
  have HTT := Lib.hid hTT
  have HT := Lib.hid hT
  have Hhv := Lib.hid hv
  have Hhr0 := Lib.hid hr0
  have Hca := Lib.hid hca
  have hf1 := h.form
  obtain ⟨Av, dv, rfl⟩ := hf1
  subst hL
  clear h IH hT hTT hT0 hT1 hT2 hS0 hlv hl h23 hst hgo hgg hn2 hlk hll hg hx hsa hv hr0 hca
  have zk : ¬ ((k + 1 : Nat) : Int) = 0 := by omega
  have zk' : ¬ (k : Int) + 1 = 0 := by omega
  have zk0 : (((k + 1 : Nat) : Int) == 0) = false := by simp only [beq_eq_false_iff_ne]; exact zk
  have zk2 : IntKind.i64.wrap (((k + 1 : Nat) : Int) - 1) = (k : Int) := by rw [IntKind.wrap_i64]; omega
  have zk3 : IntKind.i64.wrap ((k : Int) + 1 - 1) = (k : Int) := by rw [IntKind.wrap_i64]; omega
  have zk5 : IntKind.i64.wrap (k : Int) = (k : Int) := by rw [IntKind.wrap_i64]; omega
  go_enter Try.func39, Try.ntmps39
  go_upto_region 3 with fail
  try simp only [Act.put]
  refine wp_gen (fun wx => TS base b0 bN gN bO bT bS bK kind (shV Ai ni ci Al nl cl) m w0 wx (stepF lv k st g) (.slice Av ns.length dv) (.slice Av ns.length dv) ns us ∧ MV gN bO (.slice Av ns.length dv) w (.slice Av ns.length dv) wx) ⟨h1, hm1⟩ ?_
  clear h1 hm1 c1 c2 f2 z0 z0' z1
  rintro w1 ⟨h1, hm1⟩
  go_upto_region 6 with fail
  try simp only [Act.put]
  have hb2 : Below w1.heap.size w1 ((w1.alloc (.cells zN 42)).setRow w1.heap.size (ndZ (k + 1) a false)) := below_setRow ((Below.refl w1.heap.size w1).alloc (Nat.le_refl _) (.cells zN 42)) (Nat.le_refl _) (ndZ (k + 1) a false)
  have h2 := h1.quiet hb2
  have hm2 := hm1.trans (MV.quiet (gN := gN) (bO := bO) (v := .slice Av ns.length dv) hb2)
  have hbx : RowC ((w1.alloc (.cells zN 42)).setRow w1.heap.size (ndZ (k + 1) a false)) w1.heap.size 42 (ndZ (k + 1) a false) := (RowC.new w1 42 zN).row _
  have hbv : (Value.slice Av ns.length dv).ownBlock ≠ some w1.heap.size := fun e => by have := own_ltT h1.nd.row _ e; omega
  obtain ⟨bn, hbn⟩ : ∃ bn, bn = w1.heap.size := ⟨_, rfl⟩
  have hbn0 : b0 ≤ bn := by have := h1.lt; omega
  have hlt1 := h1.lt
  have hbnN : bn ≠ gN := by omega
  have hbnO : bn ≠ bO := by omega
  go_upto_region 7 with ((with_reducible show wpList _ _ _ (⟨none, Op.store 42 _ _, _, _, _, _⟩ :: _) _ _); refine wpList_store_row rfl 42 (.tmp 9) (.tmp 39) rfl w1.heap.size (ndZ (k + 1) a false) rfl rfl 42 zN (RowC.new _ _ _) rnInfo2 rfl (by simp [ndZ, Value.oneCell']) ?_)
  try simp only [Act.put]
  rw [← hbn] at hbx hbv h2 hm2 ⊢
  refine wp_gen (fun wx => TS base b0 bN gN bO bT bS bK kind (shV Ai ni ci Al nl cl) m w0 wx (stepF lv k st g) (.slice Av ns.length dv) (.slice Av ns.length dv) ns us ∧ MV gN bO (.slice Av ns.length dv) w (.slice Av ns.length dv) wx ∧ RowC wx bn 42 (ndZ (k + 1) a false)) ⟨h2, hm2, hbx⟩ ?_
  clear h1 hm1 h2 hm2 hbx hb2 hbn hlt1
  rintro w2 ⟨h2, hm2, hbx2⟩
  have hbd := c_drew (c_refl w2)
  have h2d := h2.quiet hbd
  have hmd := hm2.trans (MV.quiet (gN := gN) (bO := bO) (v := .slice Av ns.length dv) hbd)
  have hbd2 := hbx2.drew
  have hc0 := IH0 g _ ns us w2.drew p0 h2d hp0 (by omega)
  have cT2 := h2.rT.cell (i := 0) (v := cloV bN bO bT bS bK) rfl
  have cT2d := h2d.rT.cell (i := 0) (v := cloV bN bO bT bS bK) rfl
  simp only [cloV] at cT2 cT2d
  clear h2 hm2 hbx2 IH0
  go_region_held3 (fun wx : World => wx.cell? ⟨bT, 0, none⟩ = some (.func (.func 39) #[] #[.pointer (some ⟨bN, 0, none⟩), .pointer (some ⟨bO, 0, none⟩), .pointer (some ⟨bT, 0, none⟩), .pointer (some ⟨bS, 0, none⟩), .pointer (some ⟨bK, 0, none⟩)]))
    (first | exact cT2d | exact cT2 | exact cT4 | exact cT3)
    (first
      | (go_at_call 39; (with_reducible refine hc0.mono ?_); rintro e w3 ⟨v3, us3, rfl, h3, hm3⟩; have cT3 := h3.rT.cell (i := 0) (v := cloV bN bO bT bS bK) rfl; have hbx3 := hm3.box hbd2 hbnN hbnO hbv; have hc1 := IH1 g _ _ us3 w3 p1 h3 (hp1.trans (by rw [List.length_append, RT.flat_len])) (by omega))
      | (go_at_call 39; (with_reducible refine hc1.mono ?_); rintro e w4 ⟨v4, us4, rfl, h4, hm4⟩; have cT4 := h4.rT.cell (i := 0) (v := cloV bN bO bT bS bK) rfl; have hbx4 := hm4.box hbx3.1 hbnN hbnO hbx3.2))
  go_upto_region 12 with fail
  try simp only [Act.put]
  rw [flats_two] at h4
  rw [show st + 1 + 1 = st + 2 from rfl] at h4
  have hme := hmd.trans (hm3.trans hm4)
  obtain ⟨hbx, hbv4⟩ := hbx4
  obtain ⟨b, o, rfl, hbb, hcell⟩ := (Hhv.out.below h4.old).pos (by omega)
  have d0 := hcell k _ hv0
  obtain ⟨b', o', rfl, hbb', hcell'⟩ := (Hhr0.out.below h4.old).pos (by omega)
  have d1 := hcell' a _ Hca.out
  have k1 := h4.rS.cell (i := 1) (v := .slice (some ⟨b, o, none⟩) nl cl) rfl
  have zk6 : (k : Int) < (nl : Int) := by omega
  have za : (a : Int) < (l.length : Int) := by omega
  clear h2d hmd hbd2 hbd h3 hm3 hbx3 hm4 cT2 cT2d cT3 cT4 hc0 hc1 hcell hcell' hv0 Hhv Hhr0 Hca
  replace hp0 := hp0.symm
  replace hp1 := hp1.symm
  rcases hm23 with rfl | rfl
  · have hTe : joinT (k + 1) a false [T0, T1] = T := by rw [HTT.out, if_neg (by decide)]; rfl
    rw [HTT.out, if_neg (by decide)] at hq
    simp only [RT.size] at hq
    replace hq := hq.symm
    have zq : IntKind.i64.wrap (((q + 1 : Nat) : Int) - 1) = (q : Int) := by rw [IntKind.wrap_i64]; omega
    have zq2 : IntKind.i64.wrap ((q : Int) + 1 - 1) = (q : Int) := by rw [IntKind.wrap_i64]; omega
    have had1 := h4.addT' (k + 1) a false (Ts := [T0, T1]) (.inl ⟨_, _, rfl⟩) (by simp only [sizes]; omega) (ndZ (k + 1) a false) rfl #[.int .i64 (p0 : Nat), .int .i64 (p1 : Nat)] (by
      rw [show ends [T0, T1] ns.length = [p0, p1] by
        simp only [ends, List.cons.injEq, and_true]
        omega]
      rfl) 2 rfl
    have cO1 := h4.rO.cell (i := 0) (v := v4) rfl
    go_wp2_with ((with_reducible show wpList _ _ _ (⟨some 81, _, _, _, _, _⟩ :: _) _ _); refine wpList_loadC (by kernel_rfl) 42 (.tmp 9) rfl bn rfl 42 (ndZ (k + 1) a false) _ hbx Try.underlying42 rfl rnInfo2 ?_)
    refine had1.mono ?_
    rintro e wa1 ⟨va1, ua1, rfl, ha1, hma1⟩
    obtain ⟨Aa1, da1, hva1⟩ := ha1.form
    rw [show (ns ++ (joinT (k + 1) a false [T0, T1]).flat ns.length (-1)).length = q + 1 by rw [List.length_append, RT.flat_len]; simp only [joinT, RT.size]; omega] at hva1
    subst hva1
    have cP1 := ha1.rO.cell (i := 0) (v := v4) rfl
    have fP1 := ha1.rO.frozen 0
    have hb1 := ha1.store (.slice Aa1 (q + 1) da1)
    have hmb1 := hma1.trans (MV.store (gN := gN) (w := wa1) (bO := bO) (v := .slice Aa1 (q + 1) da1) (x := .slice Aa1 (q + 1) da1))
    have cQ1 := hb1.rO.cell (i := 0) (v := .slice Aa1 (q + 1) da1) rfl
    clear had1 cO1
    clear h4 ha1 k1 d0 d1
    go_wp2_with fail
    (first | exact Hpost.out _ _ _ _ _ _ Hout.out hTe rfl hb1 (hme.trans hmb1) | exact bodyPost_ret (results_tmp rfl _ _ _) rfl (Hpost.out _ _ _ _ _ _ Hout.out hTe rfl hb1 (hme.trans hmb1)))
  · have hIH2 := HIH2.out rfl
    have p2' := T2.size_pos
    rcases hk12 with rfl | rfl
    · have hTe : joinT (k + 1) a false [T0, T1, T2] = T := by rw [HTT.out, if_pos rfl, if_neg (by decide)]; rfl
      rw [HTT.out, if_pos rfl, if_neg (by decide)] at hq
      simp only [RT.size] at hq
      replace hq := hq.symm
      have zq : IntKind.i64.wrap (((q + 1 : Nat) : Int) - 1) = (q : Int) := by rw [IntKind.wrap_i64]; omega
      have zq2 : IntKind.i64.wrap ((q : Int) + 1 - 1) = (q : Int) := by rw [IntKind.wrap_i64]; omega
      obtain ⟨p2, hp2⟩ : ∃ p2, ns.length + T0.size + T1.size + T2.size = p2 + 1 := ⟨ns.length + T0.size + T1.size + T2.size - 1, by omega⟩
      have cK := h4.rK.cell (i := 0) (v := .int .i64 1) rfl
      have cT := h4.rT.cell (i := 0) (v := cloV bN bO bT bS bK) rfl
      simp only [cloV] at cT
      have hc2 := hIH2 g _ _ us4 w4 p2 h4 (by rw [List.length_append, flats_len]; simp only [sizes]; omega) (by omega)
      go_wp2_with fail
      refine hc2.mono ?_
      rintro e w5 ⟨v5, us5, rfl, h5, hm5⟩
      rw [flats_three] at h5
      have hbx5 := hm5.box hbx hbnN hbnO hbv4
      clear h4 k1 d0 d1 cK cT hc2
      have had1 := h5.addT' (k + 1) a false (Ts := [T0, T1, T2]) (.inr ⟨rfl, _, _, _, rfl⟩) (by simp only [sizes]; omega) (ndZ (k + 1) a false) rfl #[.int .i64 (p0 : Nat), .int .i64 (p1 : Nat), .int .i64 (p2 : Nat)] (by
        rw [show ends [T0, T1, T2] ns.length = [p0, p1, p2] by
          simp only [ends, List.cons.injEq, and_true]
          omega]
        rfl) 3 rfl
      have cO1 := h5.rO.cell (i := 0) (v := v5) rfl
      go_wp2_with ((with_reducible show wpList _ _ _ (⟨some 94, _, _, _, _, _⟩ :: _) _ _); refine wpList_loadC (by kernel_rfl) 42 (.tmp 9) rfl bn rfl 42 (ndZ (k + 1) a false) _ hbx5.1 Try.underlying42 rfl rnInfo2 ?_)
      refine had1.mono ?_
      rintro e wa1 ⟨va1, ua1, rfl, ha1, hma1⟩
      obtain ⟨Aa1, da1, hva1⟩ := ha1.form
      rw [show (ns ++ (joinT (k + 1) a false [T0, T1, T2]).flat ns.length (-1)).length = q + 1 by rw [List.length_append, RT.flat_len]; simp only [joinT, RT.size]; omega] at hva1
      subst hva1
      have cP1 := ha1.rO.cell (i := 0) (v := v5) rfl
      have fP1 := ha1.rO.frozen 0
      have hb1 := ha1.store (.slice Aa1 (q + 1) da1)
      have hmb1 := hma1.trans (MV.store (gN := gN) (w := wa1) (bO := bO) (v := .slice Aa1 (q + 1) da1) (x := .slice Aa1 (q + 1) da1))
      have cQ1 := hb1.rO.cell (i := 0) (v := .slice Aa1 (q + 1) da1) rfl
      clear had1 cO1
      clear h5 ha1
      go_wp2_with fail
      (first | exact Hpost.out _ _ _ _ _ _ Hout.out hTe rfl hb1 ((hme.trans hm5).trans hmb1) | exact bodyPost_ret (results_tmp rfl _ _ _) rfl (Hpost.out _ _ _ _ _ _ Hout.out hTe rfl hb1 ((hme.trans hm5).trans hmb1)))
    · have hTe : joinT (k + 1) a false [(RT.two (k + 1) a true T0 T1), T2] = T := by rw [HTT.out, if_pos rfl, if_pos rfl]; rfl
      rw [HTT.out, if_pos rfl, if_pos rfl] at hq
      simp only [RT.size] at hq
      replace hq := hq.symm
      have zq : IntKind.i64.wrap (((q + 1 : Nat) : Int) - 1) = (q : Int) := by rw [IntKind.wrap_i64]; omega
      have zq2 : IntKind.i64.wrap ((q : Int) + 1 - 1) = (q : Int) := by rw [IntKind.wrap_i64]; omega
      have zp : IntKind.i64.wrap (((p1 + 1 + 1 : Nat) : Int) - 1) = ((p1 + 1 : Nat) : Int) := by rw [IntKind.wrap_i64]; omega
      have zp2 : IntKind.i64.wrap ((p1 : Int) + 1 + 1 - 1) = ((p1 + 1 : Nat) : Int) := by rw [IntKind.wrap_i64]; omega
      have zp3 : IntKind.i64.wrap ((p1 : Int) + 1) = ((p1 + 1 : Nat) : Int) := by rw [IntKind.wrap_i64]; omega
      obtain ⟨p2, hp2⟩ : ∃ p2, ns.length + T0.size + T1.size + 1 + T2.size = p2 + 1 := ⟨ns.length + T0.size + T1.size + 1 + T2.size - 1, by omega⟩
      have cK := h4.rK.cell (i := 0) (v := .int .i64 2) rfl
      have had1 := h4.addT' (k + 1) a true (Ts := [T0, T1]) (.inl ⟨_, _, rfl⟩) (by simp only [sizes]; omega) #[.int .i64 ((k : Int) + 1), .int .i64 (a : Nat), .bool true, .int .i64 0, .int .i64 0, .slice none 0 0, .int .i64 0] rfl #[.int .i64 (p0 : Nat), .int .i64 (p1 : Nat)] (by
        rw [show ends [T0, T1] ns.length = [p0, p1] by
          simp only [ends, List.cons.injEq, and_true]
          omega]
        rfl) 2 rfl
      have cO1 := h4.rO.cell (i := 0) (v := v4) rfl
      go_wp2_with fail
      refine had1.mono ?_
      rintro e wa1 ⟨va1, ua1, rfl, ha1, hma1⟩
      obtain ⟨Aa1, da1, hva1⟩ := ha1.form
      rw [show (ns ++ (joinT (k + 1) a true [T0, T1]).flat ns.length (-1)).length = p1 + 1 + 1 by rw [List.length_append, RT.flat_len]; simp only [joinT, RT.size]; omega] at hva1
      subst hva1
      have cP1 := ha1.rO.cell (i := 0) (v := v4) rfl
      have fP1 := ha1.rO.frozen 0
      have hb1 := ha1.store (.slice Aa1 (p1 + 1 + 1) da1)
      have hmb1 := hma1.trans (MV.store (gN := gN) (w := wa1) (bO := bO) (v := .slice Aa1 (p1 + 1 + 1) da1) (x := .slice Aa1 (p1 + 1 + 1) da1))
      have cQ1 := hb1.rO.cell (i := 0) (v := .slice Aa1 (p1 + 1 + 1) da1) rfl
      clear had1 cO1
      have hbx5 := hmb1.box hbx hbnN hbnO hbv4
      have cT := hb1.rT.cell (i := 0) (v := cloV bN bO bT bS bK) rfl
      simp only [cloV] at cT
      have cT' := ha1.rT.cell (i := 0) (v := cloV bN bO bT bS bK) rfl
      simp only [cloV] at cT'
      have hc2 := hIH2 g _ _ ua1 _ p2 hb1 (by rw [List.length_append, RT.flat_len]; simp only [joinT, RT.size]; omega) (by omega)
      clear h4 k1 d0 d1 cK
      go_wp2_with fail
      refine hc2.mono ?_
      rintro e w5 ⟨v5, us5, rfl, h5, hm5⟩
      rw [flats_two, show joinT (k + 1) a true [T0, T1] = (RT.two (k + 1) a true T0 T1) from rfl] at h5
      have hbx6 := hm5.box hbx5.1 hbnN hbnO hbx5.2
      clear hb1 ha1 cT cT' hc2 cP1 fP1 cQ1
      have had2 := h5.addT' (k + 1) a false (Ts := [(RT.two (k + 1) a true T0 T1), T2]) (.inl ⟨_, _, rfl⟩) (by simp only [sizes, RT.size]; omega) (ndZ (k + 1) a false) rfl #[.int .i64 ((p1 + 1) : Nat), .int .i64 (p2 : Nat)] (by
        rw [show ends [(RT.two (k + 1) a true T0 T1), T2] ns.length = [(p1 + 1), p2] by
          simp only [ends, RT.size, List.cons.injEq, and_true]
          omega]
        rfl) 2 rfl
      have cO2 := h5.rO.cell (i := 0) (v := v5) rfl
      go_wp2_with ((with_reducible show wpList _ _ _ (⟨some 64, _, _, _, _, _⟩ :: _) _ _); refine wpList_loadC (by kernel_rfl) 42 (.tmp 9) rfl bn rfl 42 (ndZ (k + 1) a false) _ hbx6.1 Try.underlying42 rfl rnInfo2 ?_)
      refine had2.mono ?_
      rintro e wa2 ⟨va2, ua2, rfl, ha2, hma2⟩
      obtain ⟨Aa2, da2, hva2⟩ := ha2.form
      rw [show (ns ++ (joinT (k + 1) a false [(RT.two (k + 1) a true T0 T1), T2]).flat ns.length (-1)).length = q + 1 by rw [List.length_append, RT.flat_len]; simp only [joinT, RT.size]; omega] at hva2
      subst hva2
      have cP2 := ha2.rO.cell (i := 0) (v := v5) rfl
      have fP2 := ha2.rO.frozen 0
      have hb2 := ha2.store (.slice Aa2 (q + 1) da2)
      have hmb2 := hma2.trans (MV.store (gN := gN) (w := wa2) (bO := bO) (v := .slice Aa2 (q + 1) da2) (x := .slice Aa2 (q + 1) da2))
      have cQ2 := hb2.rO.cell (i := 0) (v := .slice Aa2 (q + 1) da2) rfl
      clear had2 cO2
      clear h5 ha2
      go_wp2_with fail
      (first | exact Hpost.out _ _ _ _ _ _ Hout.out hTe rfl hb2 (((hme.trans hmb1).trans hm5).trans hmb2) | exact bodyPost_ret (results_tmp rfl _ _ _) rfl (Hpost.out _ _ _ _ _ _ Hout.out hTe rfl hb2 (((hme.trans hmb1).trans hm5).trans hmb2)))

end Go.Proofs.Ytbickllpledlbaa

