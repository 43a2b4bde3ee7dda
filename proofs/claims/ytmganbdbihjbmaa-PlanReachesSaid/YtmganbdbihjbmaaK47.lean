import Derived.Test.YtmganbdbihjbmaaK27
import Derived.Test.YtmganbdbihjbmaaK38
import Derived.Test.YtmganbdbihjbmaaK33
/-
  CONTRACTS of the program's red.leaf: its closure, and slices.IndexFunc over nodes with it.
-/
set_option linter.unusedVariables false
namespace Go.Proofs.Ytmganbdbihjbmaa
open Go.RowKit

set_option maxRecDepth 100000 in
theorem PLeafB_any (x : RI) (u : Value) (b : Nat) (p : Int) (w : World) (hb : w.cell? ⟨b, 0, none⟩ = some (.int .i64 p)) (hu : u.oneCell' = true) :
    Calls Try.prog 76 #[.agg (riC x u).toArray, .pointer (some ⟨b, 0, none⟩)] w fun e w' => e = .returned (.bool (x.lev == 0 && x.at_ == p)) ∧ Below w.heap.size w w' := by
  have hM := (Ms.nil w).box 57 (riC x u).toArray
  have hold := hM.old
  have c0 := (hM.get 0 rfl).cell (i := 0) (v := .int .i64 x.lev) rfl
  have c1 := (hM.get 0 rfl).cell (i := 1) (v := .int .i64 x.at_) rfl
  have hb1 : (w.alloc (.cells (riC x u).toArray 57)).cell? ⟨b, 0, none⟩ = some (.int .i64 p) := by
    rw [World.cell?_of_block (hold.block b (World.block_lt_of_cell? w _ hb))]
    exact hb
  have Hpost := Lib.hid (show ∀ r w', r = (x.lev == 0 && x.at_ == p) → Below w.heap.size w w' → (fun e w' => e = Ending.returned (Value.bool (x.lev == 0 && x.at_ == p)) ∧ Below w.heap.size w w') (.returned (.bool r)) w' from fun r w' h1 h2 => ⟨by rw [h1], h2⟩)
  generalize (fun e w' => e = Ending.returned (Value.bool (x.lev == 0 && x.at_ == p)) ∧ Below w.heap.size w w') = PO at *
  by_cases h1 : x.lev = 0
  · by_cases h2 : x.at_ = p
    · have hc := Lib.hid (show true = (x.lev == 0 && x.at_ == p) by simp [h1, h2])
      have hbn : (x.at_ == p) = true := by simpa using h2
      clear hM
      go_enter Try.func76, Try.ntmps76
      go_wp2_with fail
      (first | exact Hpost.out _ _ hc.out hold | exact bodyPost_ret (results_tmp rfl _ _ _) rfl (Hpost.out _ _ hc.out hold))
    · have hc := Lib.hid (show false = (x.lev == 0 && x.at_ == p) by simp [h2])
      have hbn : (x.at_ == p) = false := by simpa using h2
      clear hM
      go_enter Try.func76, Try.ntmps76
      go_wp2_with fail
      (first | exact Hpost.out _ _ hc.out hold | exact bodyPost_ret (results_tmp rfl _ _ _) rfl (Hpost.out _ _ hc.out hold))
  · have hc := Lib.hid (show false = (x.lev == 0 && x.at_ == p) by simp [h1])
    clear hM
    go_enter Try.func76, Try.ntmps76
    go_wp2_with fail
    (first | exact Hpost.out _ _ hc.out hold | exact bodyPost_ret (results_tmp rfl _ _ _) rfl (Hpost.out _ _ hc.out hold))

def leafB (p : Int) (x : RI) : Bool := x.lev == 0 && x.at_ == p
set_option maxRecDepth 100000 in
set_option maxHeartbeats 4000000 in
theorem PIndexF_any (A : Option Addr) (n c : Nat) (ns : List RI) (p : Int) (b B k : Nat) (x : RI) (w : World) (hN : NdR w B A n c ns) (hB : B ≤ w.heap.size) (hb : w.cell? ⟨b, 0, none⟩ = some (.int .i64 p)) (hk : ns[k]? = some x) (hx : leafB p x = true) (hmin : ∀ (i : Nat) (y : RI), i < k → ns[i]? = some y → leafB p y = false) (hn : n ≤ 100000) :
    Calls Try.prog 75 #[.slice A n c, .func (.func 76) #[] #[.pointer (some ⟨b, 0, none⟩)]] w fun e w' => e = .returned (.int .i64 (k : Nat)) ∧ Below w.heap.size w w' := by
  have Hmin := Lib.hid hmin
  have Hn := Lib.hid hN.len
  have hkn : k < n := by rw [← hN.len]; exact (List.getElem?_eq_some_iff.1 hk).1
  have hblt := World.block_lt_of_cell? w _ hb
  have Hpost := Lib.hid (show ∀ w', Below w.heap.size w w' → (fun e w' => e = Ending.returned (Value.int .i64 (k : Nat)) ∧ Below w.heap.size w w') (.returned (.int .i64 (k : Nat))) w' from fun w' h => ⟨rfl, h⟩)
  generalize (fun e w' => e = Ending.returned (Value.int .i64 (k : Nat)) ∧ Below w.heap.size w w') = PO at *
  clear hmin
  go_enter Try.func75, Try.ntmps75
  go_wp2_with fail
  go_loopw [8] (fun v8 wr => ∃ j : Nat, j ≤ k ∧ v8 = .int .i64 (j : Int) ∧ Below w.heap.size w wr) (fun v8 _ => n - (intOf v8).toNat)
  case atStart => exact ⟨0, by omega, rfl, Below.refl _ _⟩
  case round =>
    obtain ⟨j, hj, rfl, hold⟩ := hrel
    have hjn : j < n := by omega
    have hjx : j < ns.length := by rw [Hn.out]; exact hjn
    have hy : ns[j]? = some ns[j] := List.getElem?_eq_getElem hjx
    obtain ⟨g, o, Au, cu, rfl, hg, hrg, _, _, _⟩ := (hN.below (hold.mono hB)).range hy
    have hlf := PLeafB_any ns[j] (.slice Au ns[j].kids.length cu) b p wr (by rw [World.cell?_of_block (hold.block b hblt)]; exact hb) rfl
    have Hj := Lib.hid (show j < k → leafB p ns[j] = false from fun h => Hmin.out j _ h hy)
    have Hk := Lib.hid (show j = k → leafB p ns[j] = true from fun h => by
      subst h
      rw [hy] at hk
      rw [Option.some.inj hk]
      exact hx)
    generalize ns[j] = y at *
    rw [← leafB] at hlf
    have zj : (j : Int) < (n : Int) := by omega
    go_wp2_with ((with_reducible show wpList _ _ _ (⟨some 15, _, _, _, _, _⟩ :: _) _ _); refine wpList_load_midG (by kernel_rfl) 57 (.tmp 14) rfl g (o + j * 7) rfl (riC y (.slice Au y.kids.length cu)) _ hrg Try.underlying57 rfl rnInfo2 ?_)
    refine hlf.mono ?_
    rintro e w2 ⟨rfl, hb2⟩
    have hold2 := hold.trans (hb2.mono hold.size)
    by_cases hjk : j = k
    · rw [Hk.out hjk]
      subst hjk
      clear hlf hrg
      go_wp2_with fail
      (first | exact Hpost.out _ hold2 | exact bodyPost_ret (results_tmp rfl _ _ _) rfl (Hpost.out _ hold2))
    · rw [Hj.out (by omega)]
      clear hlf hrg
      go_wp2_with fail
      go_roundw
      case rel => exact ⟨j + 1, by omega, by go_num, hold2⟩
      case measure => simp [intOf]; omega

set_option maxRecDepth 100000 in
theorem PLeaf_any (A : Option Addr) (n c : Nat) (ns : List RI) (p : Int) (k : Nat) (x : RI) (w : World) (hN : NdR w w.heap.size A n c ns) (hk : ns[k]? = some x) (hx : leafB p x = true) (hmin : ∀ (i : Nat) (y : RI), i < k → ns[i]? = some y → leafB p y = false) (hn : n ≤ 100000) :
    Calls Try.prog 61 #[.slice A n c, .int .i64 p] w fun e w' => e = .returned (.int .i64 (k : Nat)) ∧ Below w.heap.size w w' := by
  have hM := (Ms.nil w).box 3 #[.int .i64 p]
  have hix := PIndexF_any A n c ns p w.heap.size w.heap.size k x _ (hN.below hM.old) hM.old.size ((hM.get 0 rfl).cell (i := 0) rfl) hk hx hmin hn
  have hold := hM.old
  have hmf : ∀ (fn : Fn) (first cap : Array Value) (w : World), (Instr.makeFunc fn first cap).run Try.prog w = .ok (.func fn first cap) w := fun _ _ _ _ => rfl
  clear hk hx hmin hM
  go_enter Try.func61, Try.ntmps61
  go_wp2_with fail
  refine hix.mono ?_
  rintro e w2 ⟨rfl, hb2⟩
  have hold2 := hold.trans (hb2.mono (by simp))
  clear hix hmf
  go_wp2_with fail
  go_ret
  exact ⟨rfl, hold2⟩

end Go.Proofs.Ytmganbdbihjbmaa

/-
  CONTRACTS of the program's red.way and Path.
-/
set_option linter.unusedVariables false
namespace Go.Proofs.Ytmganbdbihjbmaa
open Go.RowKit

def WayPost (w : World) (kind : Int) (ids : List Int) (ll : List (List Int)) (id : Int) (e : Ending) (w' : World) : Prop :=
  Below w.heap.size w w' ∧ ∃ A n c B m d, e = .returned (.tuple #[.slice A n c, .slice B m d, .int .i64 (pathE kind ids ll id)]) ∧ (pathE kind ids ll id = 0 → NdR w' w'.heap.size A n c (nodesI kind ids ll)) ∧ m ≤ d ∧ d ≤ maxLen ∧ Rd w' w'.heap.size B m (kidV (pathI kind ids ll id))
def lenV : Value → Nat
  | .slice _ n _ => n
  | _ => 0

set_option maxRecDepth 100000 in
set_option maxHeartbeats 4000000 in
theorem PWay_any (kind : Int) (Ai : Option Addr) (ni ci : Nat) (Al : Option Addr) (nl cl : Nat) (ids : List Int) (ll : List (List Int)) (id : Int) (w : World) (h : ShR w w.heap.size Ai ni ci Al nl cl ids ll) (hf : fewT ids ll = true) :
    Calls Try.prog 43 #[.int .i64 kind, .agg (shV Ai ni ci Al nl cl), .int .i64 id] w (WayPost w kind ids ll id) := by
  have hM := (Ms.nil w).box 25 (shV Ai ni ci Al nl cl)
  have hS1 := h.below hM.old
  have hnd := PNodes_any kind Ai ni ci Al nl cl ids ll _ (hS1.more hM.old.size) hf
  have Hpost := Lib.hid (show ∀ A n c B m d er w', Below w.heap.size w w' → er = pathE kind ids ll id → (er = 0 → NdR w' w'.heap.size A n c (nodesI kind ids ll)) → m ≤ d → d ≤ maxLen → Rd w' w'.heap.size B m (kidV (pathI kind ids ll id)) → WayPost w kind ids ll id (.returned (.tuple #[.slice A n c, .slice B m d, .int .i64 er])) w' from fun A n c B m d er w' h1 h2 h3 h4 h5 h6 => ⟨h1, A, n, c, B, m, d, by rw [h2], by rw [← h2]; exact h3, h4, h5, h6⟩)
  generalize WayPost w kind ids ll id = PO at *
  obtain ⟨er, her⟩ : ∃ er, er = mayE kind ids ll := ⟨_, rfl⟩
  have Her := Lib.hid her
  clear her h
  go_enter Try.func43, Try.ntmps43
  go_wp2_with ((with_reducible show wpList _ _ _ (⟨some 17, _, _, _, _, _⟩ :: _) _ _); refine wpList_loadC (by kernel_rfl) 25 (.tmp 4) rfl w.heap.size rfl 25 (shV Ai ni ci Al nl cl) _ (hM.get 0 rfl) Try.underlying25 rfl shapeInfo2 ?_)
  refine hnd.mono ?_
  rintro e w1 ⟨hb1, A, n, c, rfl, hN⟩
  rw [← Her.out]
  have hM1 := hM.call hb1
  have hS2 := hS1.below (hb1.mono hM.old.size)
  clear hM hb1 hnd hS1
  have hold := hM1.old
  have hmay : (mayB kind ids ll = false ∧ er = 1) ∨ (mayB kind ids ll = true ∧ er = 0) := by
    rw [Her.out, mayE]
    cases mayB kind ids ll <;> simp
  rcases hmay with ⟨hmb, rfl⟩ | ⟨hmb, rfl⟩
  · have Hc := Lib.hid (show (1 : Int) = pathE kind ids ll id by rw [pathE, hmb]; rfl)
    have Hn := Lib.hid (show pathI kind ids ll id = [] by rw [pathI, hmb]; rfl)
    have hz : Rd w1 w1.heap.size none 0 (kidV (pathI kind ids ll id)) := by rw [Hn.out]; exact Rd.zero _ _ _
    have h10 : (1 : Int) = 0 → NdR w1 w1.heap.size none 0 0 (nodesI kind ids ll) := fun h => absurd h (by decide)
    clear hM1 hN hS2 hmb
    go_wp2_with fail
    (first | exact Hpost.out _ _ _ _ _ _ _ _ hold Hc.out h10 (Nat.le_refl _) (by simp [maxLen]) hz | (refine bodyPost_ret (results_tmp3 rfl _ _ _) rfl ?_; exact Hpost.out _ _ _ _ _ _ _ _ hold Hc.out h10 (Nat.le_refl _) (by simp [maxLen]) hz))
  · have hfd := PFind_any Ai ni ci Al nl cl ids id w1 hS2.hni hS2.hci hS2.hmi (hS2.hids.more hold.size)
    have Hmb := Lib.hid hmb
    have Hble := Lib.hid (belT_le ids id)
    obtain ⟨p, hp⟩ : ∃ p, p = belT ids id := ⟨_, rfl⟩
    obtain ⟨ti, hti⟩ : ∃ ti, ti = isT ids id := ⟨_, rfl⟩
    rw [← hp, ← hti] at hfd
    have Hp := Lib.hid hp
    have Hti := Lib.hid hti
    clear hp hti hmb
    go_wp2_with ((with_reducible show wpList _ _ _ (⟨some 25, _, _, _, _, _⟩ :: _) _ _); refine wpList_loadC (by kernel_rfl) 25 (.tmp 4) rfl w.heap.size rfl 25 (shV Ai ni ci Al nl cl) _ (hM1.get 0 rfl) Try.underlying25 rfl shapeInfo2 ?_)
    refine hfd.mono ?_
    rintro e w2 ⟨rfl, hb2⟩
    have hold2 := hold.trans (hb2.mono hold.size)
    have hN2 := (hN.below hb2).more hb2.size
    clear hM1 hfd hS2 hold hN hb2
    cases ti with
    | false =>
      have Hc := Lib.hid (show (6 : Int) = pathE kind ids ll id by rw [pathE, Hmb.out, ← Hti.out]; rfl)
      have Hn := Lib.hid (show pathI kind ids ll id = [] by rw [pathI, ← Hti.out, if_neg (by simp)])
      have hz : Rd w2 w2.heap.size none 0 (kidV (pathI kind ids ll id)) := by rw [Hn.out]; exact Rd.zero _ _ _
      have h60 : (6 : Int) = 0 → NdR w2 w2.heap.size none 0 0 (nodesI kind ids ll) := fun h => absurd h (by decide)
      clear hN2
      go_wp2_with fail
      (first | exact Hpost.out _ _ _ _ _ _ _ _ hold2 Hc.out h60 (Nat.le_refl _) (by simp [maxLen]) hz | (refine bodyPost_ret (results_tmp3 rfl _ _ _) rfl ?_; exact Hpost.out _ _ _ _ _ _ _ _ hold2 Hc.out h60 (Nat.le_refl _) (by simp [maxLen]) hz))
    | true =>
      have Hc := Lib.hid (show (0 : Int) = pathE kind ids ll id by rw [pathE, Hmb.out, ← Hti.out]; rfl)
      have h0 : 0 < ids.length := by
        have := Hti.out
        cases ids with
        | nil => simp [isT] at this
        | cons x l => simp
      have hT := top_facts Hmb.out h0
      obtain ⟨hpa, hpl⟩ := path_top hT Hmb.out Hti.out.symm
      rw [← Hp.out] at hpa hpl
      have hW := way_top hT hpl
      have hP2 := pathI_len kind ids ll id
      have hnod := hT.nodes
      have hsz := nodesU_len kind ids ll
      generalize nodesI kind ids ll = NS at *
      generalize pathI kind ids ll id = P at *
      subst hpa hnod
      generalize (treeOf kind (lvN ll) (lvN ll).length 0).path 0 p = P at *
      generalize (treeOf kind (lvN ll) (lvN ll).length 0).flat 0 (-1) = L at *
      obtain ⟨a, t, x, e1, e2, e3, e4, e5, e6⟩ := hW.first
      have hnn := hN2.len
      have hn2 : n ≤ 2000 := by omega
      have hlf := PLeaf_any A n c (L.map RN.i) (p : Int) a x.i w2 hN2 (by rw [List.getElem?_map, e2]; rfl) (by simp [leafB, RN.i, e3, e4]) (fun i y hi hy => by
        rw [List.getElem?_map] at hy
        obtain ⟨z, hz, rfl⟩ := Option.map_eq_some_iff.1 hy
        have := e6 i z hi hz
        simp only [leafB, RN.i, Bool.and_eq_false_iff, beq_eq_false_iff_ne]
        omega) (by omega)
      have Hch := Lib.hid hW.chain
      have Hat := Lib.hid (show ∀ j (hj : j < P.length), ∃ y, L[P[j]]? = some y ∧ y.up = nextU (P.drop (j + 1)) (-1) from fun j hj => chainP_at L (-1) P j hW.chain hj)
      have Hst := Lib.hid (show ((a : Nat) : Int) = nextU (P.drop 0) (-1) by rw [e1]; rfl)
      have Hn := Lib.hid hnn
      have Hl2 := Lib.hid hsz
      obtain ⟨i0, hi0, hz0, hz1, hz2⟩ := info_parts intInfo
      clear hW hpl e1 e2 e3 e4 e5 e6 hT hnn hsz h0
      go_wp2_with fail
      refine hlf.mono ?_
      rintro e w3 ⟨rfl, hb3⟩
      have hold3 := hold2.trans (hb3.mono hold2.size)
      have hN3 := (hN2.below hb3).more hb3.size
      clear hlf hN2 hold2 hb3
      rw [Hst.out]
      go_wp2_with fail
      go_loopw [13, 14] (fun v13 v14 wr => ∃ j : Nat, j ≤ P.length ∧ v14 = .int .i64 (nextU (P.drop j) (-1)) ∧ Ms w3 wr [] ∧ wr.ownsRow w3.heap.size 3 1 v13 j (kidV (P.take j))) (fun v13 _ _ => P.length - lenV v13)
      case atStart => exact ⟨0, by omega, rfl, Ms.nil _, World.ownsRow_nil _ _ _ _⟩
      case round =>
        obtain ⟨j, hj, rfl, hM, hown⟩ := hrel
        have hold5 := hM.old
        obtain ⟨A1, c1, hv1, _, _⟩ := own_formT hown
        subst hv1
        by_cases hjn : j < P.length
        · obtain ⟨y, hy, hyu⟩ := Hat.out j hjn
          have Hd := Lib.hid (show nextU (P.drop j) (-1) = ((P[j] : Nat) : Int) by rw [List.drop_eq_getElem_cons hjn]; rfl)
          rw [Hd.out]
          have Htk := Lib.hid (show P.take (j + 1) = P.take j ++ [P[j]] from List.take_succ_eq_append_getElem hjn)
          obtain ⟨b, o, Au, cu, rfl, hbb, hrg, _, _, _⟩ := (hN3.below hold5).range (k := P[j]) (x := y.i) (by rw [List.getElem?_map, hy]; rfl)
          have hqn : P[j] < L.length := (List.getElem?_eq_some_iff.1 hy).1
          generalize P[j] = q at *
          have zq : (q : Int) < (n : Int) := by
            have h1 := Hn.out
            rw [List.length_map] at h1
            omega
          have zq1 : ((q : Int) != -1) = true := by simp only [bne_iff_ne, ne_eq]; omega
          have hal := d_al wr (.cells #[iv (q : Nat)] 3)
          clear hy Hd hqn
          go_wp2_with (at_builtin; refine wpList_append_rd _ rfl (.tmp 42) (.tmp 44) _ rfl w3.heap.size 3 i0 _ 8 Try.underlying22 hi0 hz0 hz1 hz2 rfl (.slice A1 j c1) j _ rfl (own_below hown hal) (wr.heap.size + 1) (some ⟨wr.heap.size, 0, none⟩) 1 1 [iv (q : Nat)] rfl (Rd.mk_ _ _ _ rfl (by omega) rfl rfl) (one_ivn [q]) (by simp only [maxLen]; omega) (by omega) (by have := hold5.size; rw [World.size_alloc]; omega) ?_; intro v6 w6 hown6 hgr6 hat6; have hold6 : Below w3.heap.size w3 w6 := (hold5.trans (hal.mono hold5.size)).grown hgr6 (by have := hold5.size; rw [World.size_alloc]; omega) (own_blockT hown); have c6 : w6.cell? ⟨b, o + q * 7 + 6, none⟩ = some (.int .i64 y.up) := (World.cell?_of_block (a := ⟨b, o + q * 7 + 6, none⟩) ((hold6.block b hbb).trans (hold5.block b hbb).symm)).trans (hrg 6 (.int .i64 y.up) rfl))
          have hown7 : w6.ownsRow w3.heap.size 3 1 v6 (j + 1) (kidV (P.take (j + 1))) := by
            rw [Htk.out, kidV, List.map_append]
            exact hown6
          obtain ⟨A7, c7, hv7, _, _⟩ := own_formT hown7
          subst hv7
          go_roundw
          case rel => exact ⟨j + 1, by omega, rfl, ⟨hold6, fun q hq => by simp at hq⟩, hown7⟩
          case measure => simp only [lenV]; omega
        · obtain rfl : j = P.length := by omega
          rw [List.drop_length, List.take_length] at *
          have hfin : Below w.heap.size w wr := hold3.trans (hold5.mono hold3.size)
          have hN5 := (hN3.below hold5).more hold5.size
          obtain ⟨_, _, e1, hc7, hm7⟩ := own_formT hown
          injection e1 with e1 e2 e3
          subst e1 e3
          have hrd : Rd wr wr.heap.size A1 P.length (kidV P) := Rd.of_own hown
          simp only [nextU]
          clear hM hown
          go_wp2_with fail
          (first | exact Hpost.out _ _ _ _ _ _ _ _ hfin Hc.out (fun _ => hN5) hc7 hm7 hrd | (refine bodyPost_ret (results_tmp3 rfl _ _ _) rfl ?_; exact Hpost.out _ _ _ _ _ _ _ _ hfin Hc.out (fun _ => hN5) hc7 hm7 hrd))

set_option maxRecDepth 100000 in
theorem PPath_any11 (kind : Int) (Ai : Option Addr) (ni ci : Nat) (Al : Option Addr) (nl cl : Nat) (ids : List Int) (ll : List (List Int)) (id : Int) (w : World) (h : ShR w w.heap.size Ai ni ci Al nl cl ids ll) (hf : fewT ids ll = true) :
    Calls Try.prog 22 #[.int .i64 kind, .agg (shV Ai ni ci Al nl cl), .int .i64 id] w (Path11Post w kind ids ll id) := by
  have hM := (Ms.nil w).box 25 (shV Ai ni ci Al nl cl)
  have hS1 := h.below hM.old
  have hwy := PWay_any kind Ai ni ci Al nl cl ids ll id _ (hS1.more hM.old.size) hf
  have hold := hM.old
  go_enter Try.func22, Try.ntmps22
  go_wp2_with ((with_reducible show wpList _ _ _ (⟨some 13, _, _, _, _, _⟩ :: _) _ _); refine wpList_loadC (by kernel_rfl) 25 (.tmp 4) rfl w.heap.size rfl 25 (shV Ai ni ci Al nl cl) _ (hM.get 0 rfl) Try.underlying25 rfl shapeInfo2 ?_)
  refine hwy.mono ?_
  rintro e w1 ⟨hb1, A, n, c, B, m, d, rfl, _, hmd, hdm, hrd⟩
  have hold1 := hold.trans (hb1.mono hold.size)
  clear hwy hM hS1
  go_wp2_with fail
  exact bodyPost_ret (results_tmp2 rfl _ _ _) rfl ⟨hold1, B, m, d, rfl, hmd, hdm, hrd⟩

end Go.Proofs.Ytmganbdbihjbmaa

