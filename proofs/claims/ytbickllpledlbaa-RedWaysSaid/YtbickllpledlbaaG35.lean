import Derived.Test.YtbickllpledlbaaG30
import Derived.Test.YtbickllpledlbaaG34
/-
  CONTRACT of the document's High (coterieref11).
-/
set_option linter.unusedVariables false
namespace Go.Proofs.Ytbickllpledlbaa
open Go.RowKit

/-- the longest way's length, less one -/
def highT (f : Int → Nat) (ids : List Int) : Int := ids.foldl (fun h id => max h ((f id : Int) - 1)) 0
theorem highT_snoc (f : Int → Nat) (ids : List Int) (id : Int) : highT f (ids ++ [id]) = max (highT f ids) ((f id : Int) - 1) := by rw [highT, List.foldl_append]; rfl
theorem highT_range (f : Int → Nat) (m : Nat) (hf : ∀ id, f id ≤ m) : ∀ ids : List Int, 0 ≤ highT f ids ∧ highT f ids ≤ m := by
  have aux : ∀ (ids : List Int) (h : Int), 0 ≤ h → h ≤ m → 0 ≤ ids.foldl (fun h id => max h ((f id : Int) - 1)) h ∧ ids.foldl (fun h id => max h ((f id : Int) - 1)) h ≤ m := by
    intro ids
    induction ids with
    | nil => intro h h0 h1; exact ⟨h0, h1⟩
    | cons id ids ih =>
      intro h h0 h1
      have := hf id
      exact ih _ (by simp only; omega) (by simp only; omega)
  exact fun ids => aux ids 0 (by omega) (by omega)
def highI (kind : Int) (ids : List Int) (ll : List (List Int)) : Int := if mayB kind ids ll = true then highT (fun id => (pathI kind ids ll id).length) ids else 0
def HighPost (w : World) (kind : Int) (ids : List Int) (ll : List (List Int)) (e : Ending) (w' : World) : Prop :=
  Below w.heap.size w w' ∧ e = .returned (.tuple #[.int .i64 (highI kind ids ll), .int .i64 (mayE kind ids ll)])
theorem pathI_len (kind : Int) (ids : List Int) (ll : List (List Int)) (id : Int) : (pathI kind ids ll id).length ≤ 2000 := by
  rw [pathI]
  split
  · exact Nat.le_trans (wayI_len _ _ _) (nodesU_len _ _ _)
  · simp

set_option maxRecDepth 100000 in
set_option maxHeartbeats 4000000 in
theorem High_any (kind : Int) (Ai : Option Addr) (ni ci : Nat) (Al : Option Addr) (nl cl : Nat) (ids : List Int) (ll : List (List Int)) (w : World) (h : ShR w w.heap.size Ai ni ci Al nl cl ids ll) (hf : fewT ids ll = true) :
    Calls Try.prog 18 #[.int .i64 kind, .agg (shV Ai ni ci Al nl cl)] w (HighPost w kind ids ll) := by
  have Hni := Lib.hid h.hni
  have hM := (Ms.nil w).box 25 (shV Ai ni ci Al nl cl)
  have hS1 := h.below hM.old
  have hmy := May_any kind Ai ni ci Al nl cl ids ll _ (hS1.more hM.old.size) hf
  have hn2 : ni ≤ 1100 := by have := (few_len hf).2.1; have := h.hni; omega
  have Hpost := Lib.hid (show ∀ hi er w', Below w.heap.size w w' → er = mayE kind ids ll → hi = highI kind ids ll → HighPost w kind ids ll (.returned (.tuple #[.int .i64 hi, .int .i64 er])) w' from fun hi er w' h1 h2 h3 => ⟨h1, by rw [h2, h3]⟩)
  generalize HighPost w kind ids ll = PO at *
  obtain ⟨mb, hmb⟩ : ∃ mb, mb = mayB kind ids ll := ⟨_, rfl⟩
  rw [← hmb] at hmy
  have Hmb := Lib.hid hmb
  have Hf := Lib.hid hf
  clear hmb hf h
  go_enter Try.func18, Try.ntmps18
  go_wp2_with ((with_reducible show wpList _ _ _ (⟨some 12, _, _, _, _, _⟩ :: _) _ _); refine wpList_loadC (by kernel_rfl) 25 (.tmp 3) rfl w.heap.size rfl 25 (shV Ai ni ci Al nl cl) _ (hM.get 0 rfl) Try.underlying25 rfl shapeInfo2 ?_)
  refine hmy.mono ?_
  rintro e w1 ⟨rfl, hb1⟩
  have hM1 := hM.call hb1
  have hS2 := hS1.below (hb1.mono hM.old.size)
  clear hM hb1 hmy hS1
  have hold := hM1.old
  cases mb with
  | false =>
    have Hc := Lib.hid (show (1 : Int) = mayE kind ids ll by rw [mayE, ← Hmb.out]; rfl)
    have Hn := Lib.hid (show (0 : Int) = highI kind ids ll by rw [highI, ← Hmb.out]; rfl)
    clear hM1
    go_wp2_with fail
    (first | exact Hpost.out _ _ _ hold Hc.out Hn.out | exact bodyPost_ret (results_tmp2 rfl _ _ _) rfl (Hpost.out _ _ _ hold Hc.out Hn.out))
  | true =>
    have Hc := Lib.hid (show (0 : Int) = mayE kind ids ll by rw [mayE, ← Hmb.out]; rfl)
    have Hn := Lib.hid (show highI kind ids ll = highT (fun id => (pathI kind ids ll id).length) ids by rw [highI, ← Hmb.out]; rfl)
    have Hrange := Lib.hid (highT_range (fun id => (pathI kind ids ll id).length) 2000 (pathI_len kind ids ll))
    have Hlen := Lib.hid (pathI_len kind ids ll)
    have Hpath := Lib.hid (fun id w h => Path11_any kind Ai ni ci Al nl cl ids ll id w h Hf.out)
    have k0 := (hM1.get 0 rfl).cell (i := 0) (v := .slice Ai ni ci) rfl
    go_wp2_with fail
    go_loopw [6, 18] (fun v6 v18 wr => ∃ j : Nat, j ≤ ni ∧ v18 = .int .i64 (j : Int) ∧ v6 = .int .i64 (highT (fun id => (pathI kind ids ll id).length) (ids.take j)) ∧ Ms w wr [(w.heap.size, 25, shV Ai ni ci Al nl cl)] ∧ ShR wr w.heap.size Ai ni ci Al nl cl ids ll) (fun _ v18 _ => ni - (intOf v18).toNat)
    case atStart => exact ⟨0, by omega, rfl, rfl, hM1, hS2⟩
    case round =>
      clear hM1 hS2 hold k0
      obtain ⟨j, hj, rfl, rfl, hM, hS⟩ := hrel
      by_cases hjn : j < ni
      · have hjx : j < ids.length := by rw [Hni.out]; exact hjn
        obtain ⟨b, o, rfl, hbb, hcell⟩ := hS.hids.pos (by omega)
        have c1 := hcell j (.int .i64 ids[j]) (by rw [List.getElem?_map, List.getElem?_eq_getElem hjx]; rfl)
        have Htk := Lib.hid (show highT (fun id => (pathI kind ids ll id).length) (ids.take (j + 1)) = max (highT (fun id => (pathI kind ids ll id).length) (ids.take j)) (((pathI kind ids ll ids[j]).length : Int) - 1) by
          rw [List.take_succ_eq_append_getElem hjx, highT_snoc])
        have hpa := Hpath.out ids[j] wr (hS.more hM.old.size)
        have hr1 := Hrange.out (ids.take j)
        have hl1 := Hlen.out ids[j]
        generalize ids[j] = id at *
        have zj : (j : Int) < (ni : Int) := by omega
        generalize highT (fun id => (pathI kind ids ll id).length) (ids.take j) = hi at *
        have hbox := hM.get 0 rfl
        clear hcell
        go_wp2_with ((with_reducible show wpList _ _ _ (⟨some 24, _, _, _, _, _⟩ :: _) _ _); refine wpList_loadC (by kernel_rfl) 25 (.tmp 3) rfl w.heap.size rfl 25 (shV _ ni ci Al nl cl) _ (hbox) Try.underlying25 rfl shapeInfo2 ?_)
        refine hpa.mono ?_
        rintro e w2 ⟨hb2, A2, n2, c2, rfl, hc2, hm2, hr2⟩
        have hM2 := hM.call hb2
        have hS2 := hS.below (hb2.mono hM.old.size)
        have hl2 := hr2.len
        rw [kidV, List.length_map] at hl2
        rw [hl2] at Htk hl1
        have Hl := Lib.hid hl2
        have zs : IntKind.i64.wrap ((n2 : Int) - 1) = (n2 : Int) - 1 := by rw [IntKind.wrap_i64]; omega
        clear hpa hM hS hb2 hbox c1 hr2 hl2
        go_wp2_with fail
        go_roundw
        case rel => exact ⟨j + 1, by omega, by go_num, by rw [Htk.out], hM2, hS2⟩
        case measure => simp [intOf]; omega
      · obtain rfl : ni = j := by omega
        have hfin := hM.old
        rw [← Hni.out, List.take_length, ← Hn.out]
        clear hM hS
        go_wp2_with fail
        (first | exact Hpost.out _ _ _ hfin Hc.out rfl | exact bodyPost_ret (results_tmp2 rfl _ _ _) rfl (Hpost.out _ _ _ hfin Hc.out rfl))

end Go.Proofs.Ytbickllpledlbaa

/-
  CONTRACT of the document's Beside (coterieref11).
-/
set_option linter.unusedVariables false
namespace Go.Proofs.Ytbickllpledlbaa
open Go.RowKit

def inT (path : List Nat) (k : Int) : Bool := path.any fun q => ((q : Nat) : Int) == k
def sideT (path : List Nat) (ks : List Int) : List Int := ks.filter fun k => !inT path k
def kidsAt (ns : List RI) (p : Nat) : List Int := (ns[p]?.map RI.kids).getD []
def besT (path : List Nat) (ns : List RI) (ps : List Nat) : List Int := (ps.map fun p => sideT path (kidsAt ns p)).flatten
theorem inT_snoc (l : List Nat) (q : Nat) (k : Int) : inT (l ++ [q]) k = (inT l k || ((q : Int) == k)) := by simp [inT]
theorem sideT_snoc (path : List Nat) (ks : List Int) (k : Int) : sideT path (ks ++ [k]) = sideT path ks ++ (if inT path k = true then [] else [k]) := by
  rw [sideT, sideT, List.filter_append]
  cases h : inT path k <;> simp [h]
theorem besT_snoc (path : List Nat) (ns : List RI) (ps : List Nat) (p : Nat) : besT path ns (ps ++ [p]) = besT path ns ps ++ sideT path (kidsAt ns p) := by simp [besT]
theorem wayI_lt (p : Int) : ∀ (i : Nat) (l : List RI), ∀ k ∈ wayI p i l, k < i + l.length
  | _, [] => by simp [wayI]
  | i, x :: l => fun k hk => by
    have ih := wayI_lt p (i + 1) l
    rw [wayI] at hk
    rw [List.length_cons]
    split at hk
    · rcases List.mem_cons.1 hk with rfl | hk
      · omega
      · have := ih k hk; omega
    · have := ih k hk; omega
theorem RT.kids3 : ∀ (T : RT) (off : Nat) (up : Int), ∀ x ∈ T.flat off up, x.kids.length ≤ 3
  | .leaf a, off, up => fun x hx => by
    simp only [RT.flat, List.mem_singleton] at hx
    subst hx
    simp
  | .two lev a red l r, off, up => fun x hx => by
    simp only [RT.flat, List.mem_append, List.mem_singleton] at hx
    rcases hx with (hx | hx) | hx
    · exact RT.kids3 l _ _ x hx
    · exact RT.kids3 r _ _ x hx
    · subst hx; simp
  | .three lev a l m r, off, up => fun x hx => by
    simp only [RT.flat, List.mem_append, List.mem_singleton] at hx
    rcases hx with ((hx | hx) | hx) | hx
    · exact RT.kids3 l _ _ x hx
    · exact RT.kids3 m _ _ x hx
    · exact RT.kids3 r _ _ x hx
    · subst hx; simp
theorem nodesI_kids (kind : Int) (ids : List Int) (ll : List (List Int)) : ∀ x ∈ nodesI kind ids ll, x.kids.length ≤ 3 := by
  intro x hx
  rw [nodesI] at hx
  split at hx
  · obtain ⟨y, hy, rfl⟩ := List.mem_map.1 hx
    rw [nodesU] at hy
    split at hy
    · simp at hy
    · have := RT.kids3 _ _ _ y hy
      simpa [RN.i, castL_len] using this
  · simp at hx
def besI (kind : Int) (ids : List Int) (ll : List (List Int)) (id : Int) : List Int := besT (pathI kind ids ll id) (nodesI kind ids ll) (pathI kind ids ll id)
def BesPost (w : World) (kind : Int) (ids : List Int) (ll : List (List Int)) (id : Int) (e : Ending) (w' : World) : Prop :=
  Below w.heap.size w w' ∧ ∃ A n c, e = .returned (.tuple #[.slice A n c, .int .i64 (pathE kind ids ll id)]) ∧ n ≤ c ∧ c ≤ maxLen ∧ Rd w' w'.heap.size A n ((besI kind ids ll id).map iv)
theorem pathI_lt (kind : Int) (ids : List Int) (ll : List (List Int)) (id : Int) : ∀ k ∈ pathI kind ids ll id, k < (nodesI kind ids ll).length := by
  intro k hk
  rw [pathI] at hk
  split at hk
  · have := wayI_lt _ _ _ k hk
    omega
  · simp at hk
theorem pathE_ne {kind : Int} {ids : List Int} {ll : List (List Int)} {id : Int} (h : ¬ pathE kind ids ll id = 0) : pathI kind ids ll id = [] := by
  rw [pathE] at h
  rw [pathI]
  split at h
  · split at h
    · simp at h
    · rename_i h2
      rw [if_neg (fun e => h2 e.2)]
  · rename_i h1
    rw [if_neg (fun e => h1 e.1)]

set_option maxRecDepth 100000 in
set_option maxHeartbeats 4000000 in
theorem Beside_any (kind : Int) (Ai : Option Addr) (ni ci : Nat) (Al : Option Addr) (nl cl : Nat) (ids : List Int) (ll : List (List Int)) (id : Int) (w : World) (h : ShR w w.heap.size Ai ni ci Al nl cl ids ll) (hf : fewT ids ll = true) :
    Calls Try.prog 16 #[.int .i64 kind, .agg (shV Ai ni ci Al nl cl), .int .i64 id] w (BesPost w kind ids ll id) := by
  have hM := (Ms.nil w).box 25 (shV Ai ni ci Al nl cl)
  have hS1 := h.below hM.old
  have hpa := Path11_any kind Ai ni ci Al nl cl ids ll id _ (hS1.more hM.old.size) hf
  have Hpost := Lib.hid (show ∀ A n c er w', Below w.heap.size w w' → er = pathE kind ids ll id → n ≤ c → c ≤ maxLen → Rd w' w'.heap.size A n ((besI kind ids ll id).map iv) → BesPost w kind ids ll id (.returned (.tuple #[.slice A n c, .int .i64 er])) w' from fun A n c er w' h1 h2 h3 h4 h5 => ⟨h1, A, n, c, by rw [h2], h3, h4, h5⟩)
  generalize BesPost w kind ids ll id = PO at *
  have Hf := Lib.hid hf
  clear hf h
  go_enter Try.func16, Try.ntmps16
  go_wp2_with ((with_reducible show wpList _ _ _ (⟨some 22, _, _, _, _, _⟩ :: _) _ _); refine wpList_loadC (by kernel_rfl) 25 (.tmp 4) rfl w.heap.size rfl 25 (shV Ai ni ci Al nl cl) _ (hM.get 0 rfl) Try.underlying25 rfl shapeInfo2 ?_)
  refine hpa.mono ?_
  rintro e w1 ⟨hb1, Ap, m, cp, rfl, hcp, hmp, hpr⟩
  have hM1 := hM.call hb1
  have hS2 := hS1.below (hb1.mono hM.old.size)
  clear hM hb1 hpa hS1
  have hold := hM1.old
  obtain ⟨er, her⟩ : ∃ er, er = pathE kind ids ll id := ⟨_, rfl⟩
  rw [← her]
  have Her := Lib.hid her
  clear her
  by_cases hc : er = 0
  · subst hc
    have hnd := Nodes11_any kind Ai ni ci Al nl cl ids ll w1 (hS2.more hold.size) Hf.out
    have Hlen := Lib.hid (nodesU_len kind ids ll)
    have Hk3 := Lib.hid (nodesI_kids kind ids ll)
    have Hlt := Lib.hid (pathI_lt kind ids ll id)
    have Hres := Lib.hid (show besI kind ids ll id = besT (pathI kind ids ll id) (nodesI kind ids ll) (pathI kind ids ll id) from rfl)
    have Hpl := Lib.hid (pathI_len kind ids ll id)
    go_wp2_with ((with_reducible show wpList _ _ _ (⟨some 32, _, _, _, _, _⟩ :: _) _ _); refine wpList_loadC (by kernel_rfl) 25 (.tmp 4) rfl w.heap.size rfl 25 (shV Ai ni ci Al nl cl) _ (hM1.get 0 rfl) Try.underlying25 rfl shapeInfo2 ?_)
    refine hnd.mono ?_
    rintro e w3 ⟨hb3, A, n, c, rfl, hN⟩
    have hold3 := hold.trans (hb3.mono hold.size)
    have hpr3 := (hpr.below hb3).more hb3.size
    generalize nodesI kind ids ll = ns at *
    generalize pathI kind ids ll id = path at *
    have hnn := hN.len
    have hpn := hpr.len
    rw [kidV, List.length_map] at hpn
    have Hnn := Lib.hid hnn
    have Hpn := Lib.hid hpn
    have hm2 : m ≤ 2000 := by rw [← hpn]; exact Hpl.out
    obtain ⟨i0, hi0, hz0, hz1, hz2⟩ := info_parts intInfo
    clear hnd hM1 hS2 hold hb3 hnn hpn hpr
    go_wp2_with fail
    go_loopw [12, 38] (fun v12 v38 wr => ∃ (j : Nat) (X : List Int), j ≤ m ∧ v38 = .int .i64 (j : Int) ∧ X = besT path ns (path.take j) ∧ X.length ≤ 3 * j ∧ Ms w3 wr [] ∧ wr.ownsRow w3.heap.size 3 1 v12 X.length (X.map iv)) (fun _ v38 _ => m - (intOf v38).toNat)
    case atStart => exact ⟨0, [], by omega, rfl, rfl, by simp, Ms.nil _, World.ownsRow_nil _ _ _ _⟩
    case round =>
      obtain ⟨j, X, hj, rfl, hX, hXl, hM, hown⟩ := hrel
      by_cases hjm : j < m
      · have hjp : j < path.length := by rw [Hpn.out]; exact hjm
        have Htk := Lib.hid (show besT path ns (path.take (j + 1)) = X ++ sideT path (kidsAt ns path[j]) by rw [List.take_succ_eq_append_getElem hjp, besT_snoc, hX])
        have hqn : path[j] < n := by rw [← Hnn.out]; exact Hlt.out _ (List.getElem_mem hjp)
        have hold5 := hM.old
        obtain ⟨bp, op, rfl, hbp, hcp2⟩ := (hpr3.below hold5).pos (by omega)
        have c1 := hcp2 j (.int .i64 (path[j] : Nat)) (by rw [kidV, List.getElem?_map, List.getElem?_eq_getElem hjp]; rfl)
        generalize path[j] = q at *
        have hqx : q < ns.length := by rw [Hnn.out]; exact hqn
        obtain ⟨b, o, Au, cu, rfl, hbb, hrg, hku, hmu, hkr⟩ := (hN.below hold5).range (List.getElem?_eq_getElem hqx)
        have Hks := Lib.hid (show kidsAt ns q = ns[q].kids by rw [kidsAt, List.getElem?_eq_getElem hqx]; rfl)
        have hks3 := Hk3.out ns[q] (List.getElem_mem hqx)
        have c2 := hrg 5 (.slice Au ns[q].kids.length cu) rfl
        generalize ns[q].kids = ks at *
        obtain ⟨nk, hnk⟩ : ∃ nk, nk = ks.length := ⟨_, rfl⟩
        rw [← hnk] at c2 hks3 hku hkr
        have Hnk := Lib.hid hnk
        have zq : (q : Int) < (n : Int) := by omega
        have zj : (j : Int) < (m : Int) := by omega
        clear hnk hcp2 hrg hX
        go_wp2_with fail
        go_loopw [12, 48] (fun v12 v48 wx => ∃ (i : Nat) (Y : List Int), i ≤ nk ∧ v48 = .int .i64 (i : Int) ∧ Y = X ++ sideT path (ks.take i) ∧ Y.length ≤ 3 * j + i ∧ Ms w3 wx [] ∧ wx.ownsRow w3.heap.size 3 1 v12 Y.length (Y.map iv) ∧ Rd wx w3.heap.size Au nk (ks.map iv)) (fun _ v48 _ => nk - (intOf v48).toNat)
        case atStart => exact ⟨0, X, by omega, rfl, by simp [sideT], by omega, hM, hown, hkr⟩
        case round =>
          clear hM hown hkr hold5 c1 c2
          obtain ⟨i, Y, hi, rfl, hY, hYl, hM, hown, hkr⟩ := hrel
          have hold5 := hM.old
          by_cases hik : i < nk
          · have hix : i < ks.length := by rw [← Hnk.out]; exact hik
            have Hy := Lib.hid (show X ++ sideT path (ks.take (i + 1)) = Y ++ (if inT path ks[i] = true then [] else [ks[i]]) by
              rw [List.take_succ_eq_append_getElem hix, sideT_snoc, hY, List.append_assoc])
            obtain ⟨ba, oa, rfl, hba, hca⟩ := hkr.pos (by omega)
            have c3 := hca i (.int .i64 ks[i]) (by rw [List.getElem?_map, List.getElem?_eq_getElem hix]; rfl)
            generalize ks[i] = x at *
            have zi : (i : Int) < (nk : Int) := by omega
            have hprx := hpr3.below hold5
            clear hca hY
            go_wp2_with fail
            go_loopw [17, 54] (fun v17 v54 wy => ∃ t : Nat, t ≤ m ∧ v54 = .int .i64 (t : Int) ∧ v17 = .bool (inT (path.take t) x) ∧ wy = wr) (fun _ v54 _ => m - (intOf v54).toNat)
            case atStart => exact ⟨0, by omega, rfl, rfl, rfl⟩
            case round =>
              obtain ⟨t, ht, rfl, rfl, rfl⟩ := hrel
              by_cases htm : t < m
              · have htp : t < path.length := by rw [Hpn.out]; exact htm
                obtain ⟨b2, o2, e2, _, hcc⟩ := hprx.pos (by omega)
                injection e2 with e2
                injection e2 with e3 e4
                subst e3 e4
                have c4 := hcc t (.int .i64 (path[t] : Nat)) (by rw [kidV, List.getElem?_map, List.getElem?_eq_getElem htp]; rfl)
                have Hin := Lib.hid (show inT (path.take (t + 1)) x = (inT (path.take t) x || ((path[t] : Int) == x)) by rw [List.take_succ_eq_append_getElem htp, inT_snoc])
                generalize path[t] = y at *
                have zt : (t : Int) < (m : Int) := by omega
                clear hcc
                obtain ⟨bb, hbb2⟩ : ∃ bb, bb = inT (path.take t) x := ⟨_, rfl⟩
                rw [← hbb2] at Hin ⊢
                clear hbb2
                cases bb with
                | true =>
                  go_wp2_with fail
                  go_roundw
                  case rel => exact ⟨t + 1, by omega, by go_num, by rw [Hin.out]; rfl, trivial⟩
                  case measure => simp [intOf]; omega
                | false =>
                  go_wp2_with fail
                  go_roundw
                  case rel => exact ⟨t + 1, by omega, by go_num, by rw [Hin.out]; rfl, trivial⟩
                  case measure => simp [intOf]; omega
              · obtain rfl : m = t := by omega
                have htk : path.take m = path := by rw [← Hpn.out, List.take_length]
                rw [htk]
                clear htk
                obtain ⟨bb, hbb2⟩ : ∃ bb, bb = inT path x := ⟨_, rfl⟩
                rw [← hbb2] at Hy ⊢
                clear hbb2
                cases bb with
                | true =>
                  have Hy2 := Lib.hid (show Y = X ++ sideT path (ks.take (i + 1)) by rw [Hy.out]; simp)
                  have hown7 := hown
                  go_wp2_with fail
                  go_roundw
                  case rel => exact ⟨i + 1, Y, by omega, by go_num, Hy2.out, by omega, hM, hown, hkr⟩
                  case measure => simp [intOf]; omega
                | false =>
                  have Hy2 := Lib.hid (show Y ++ [x] = X ++ sideT path (ks.take (i + 1)) by rw [Hy.out]; rfl)
                  have hal := d_al wr (.cells #[iv x] 3)
                  go_wp2_with (at_builtin; refine wpList_append_rd _ rfl (.tmp 67) (.tmp 69) _ rfl w3.heap.size 3 i0 _ 8 Try.underlying22 hi0 hz0 hz1 hz2 rfl u12 Y.length _ rfl (own_below hown hal) (wr.heap.size + 1) (some ⟨wr.heap.size, 0, none⟩) 1 1 [iv x] rfl (Rd.mk_ _ _ _ rfl (by omega) rfl rfl) (one_iv [x]) (by simp only [maxLen]; omega) (by omega) (by have := hold5.size; rw [World.size_alloc]; omega) ?_; intro v6 w6 hown6 hgr6 _)
                  have hold6 : Below w3.heap.size w3 w6 := (hold5.trans (hal.mono hold5.size)).grown hgr6 (by have := hold5.size; rw [World.size_alloc]; omega) (own_blockT hown)
                  have hkr6 : Rd w6 w3.heap.size (some ⟨ba, oa, none⟩) nk (ks.map iv) := hkr.below (((Below.refl _ _).trans (hal.mono hold5.size)).grown hgr6 (by have := hold5.size; rw [World.size_alloc]; omega) (own_blockT hown))
                  have hown7 : w6.ownsRow w3.heap.size 3 1 v6 (Y ++ [x]).length ((Y ++ [x]).map iv) := by
                    rw [List.length_append, List.map_append]
                    exact hown6
                  go_roundw
                  case rel => exact ⟨i + 1, Y ++ [x], by omega, by go_num, Hy2.out, by rw [List.length_append, List.length_singleton]; omega, ⟨hold6, fun q hq => by simp at hq⟩, hown7, hkr6⟩
                  case measure => simp [intOf]; omega
          · obtain rfl : nk = i := by omega
            have hY2 : Y = besT path ns (path.take (j + 1)) := by rw [Htk.out, Hks.out, hY, Hnk.out, List.take_length]
            clear hkr
            go_wp2_with fail
            go_roundw
            case rel => exact ⟨j + 1, Y, by omega, by go_num, hY2, by omega, hM, hown⟩
            case measure => simp [intOf]; omega
      · obtain rfl : m = j := by omega
        rw [← Hpn.out, List.take_length, ← Hres.out] at hX
        subst hX
        obtain ⟨A9, c9, rfl, hc9, hm9⟩ := own_formT hown
        have hfin := Rd.of_own hown
        have hold9 := hold3.trans (hM.old.mono hold3.size)
        clear hown hM
        go_wp2_with fail
        (first | exact Hpost.out _ _ _ _ _ hold9 Her.out hc9 hm9 hfin | exact bodyPost_ret (results_tmp2 rfl _ _ _) rfl (Hpost.out _ _ _ _ _ hold9 Her.out hc9 hm9 hfin))
  · have Hn := Lib.hid (show besI kind ids ll id = [] by rw [besI, pathE_ne (by rw [← Her.out]; exact hc)]; rfl)
    have hz : Rd w1 w1.heap.size none 0 ((besI kind ids ll id).map iv) := by rw [Hn.out]; exact Rd.zero _ _ _
    clear hM1
    go_wp2_with fail
    (first | exact Hpost.out _ _ _ _ _ hold Her.out (Nat.le_refl _) (by simp [maxLen]) hz | exact bodyPost_ret (results_tmp2 rfl _ _ _) rfl (Hpost.out _ _ _ _ _ hold Her.out (Nat.le_refl _) (by simp [maxLen]) hz))

end Go.Proofs.Ytbickllpledlbaa

/-
  NODES OF A TREE (layer 11): what the document's answers are of a tree that may be: pure facts.
-/
set_option linter.unusedVariables false
namespace Go.Proofs.Ytbickllpledlbaa

theorem castL_iv (l : List Nat) : (castL l).map iv = kidV l := by simp [castL, kidV]
theorem wideN_top : ∀ (lv : List (List Nat)) (many : Nat), lvOK many lv → wideN many lv lv.length ≤ 1
  | [], many, h => h
  | [l], many, ⟨_, _, _, h⟩ => by simpa [wideN, lvOK] using h
  | l :: m :: ls, many, ⟨_, _, _, h⟩ => by
    have := wideN_top (m :: ls) l.length h
    simpa [wideN] using this
theorem leafS_zero (lv : List (List Nat)) : ∀ k, leafS lv k 0 = 0
  | 0 => rfl
  | k + 1 => by rw [leafS, startT_zero, leafS_zero lv k]
theorem leafS_all {many : Nat} {lv : List (List Nat)} (hs : lvSum many lv) : ∀ k, k ≤ lv.length → leafS lv k (wideN many lv k) = many
  | 0, _ => rfl
  | k + 1, hk => by
    have hl : lv[k]? = some lv[k] := List.getElem?_eq_getElem (by omega)
    rw [leafS, wideN, getD_at hl, startT_all, wideN_sum hs hl]
    exact leafS_all hs k (by omega)
/-- a tree that may be, and has members -/
structure TopF (kind : Int) (ids : List Int) (ll : List (List Int)) (T : RT) : Prop where
  k12 : kind = 1 ∨ kind = 2
  ok : T.ok
  good : T.good kind
  fr : T.fr = 0
  to_ : T.to = ids.length
  nodes : nodesI kind ids ll = (T.flat 0 (-1)).map RN.i
  size : T.size + 1 ≤ 2 * ids.length
  n : ids.length ≤ 1000
  high : T.high ≤ if kind = 2 then 2 * (lvN ll).length else (lvN ll).length
  pow : 2 ^ (lvN ll).length ≤ ids.length
  rise : ids.Pairwise (· < ·)
theorem top_facts {kind : Int} {ids : List Int} {ll : List (List Int)} (hm : mayB kind ids ll = true) (h0 : 0 < ids.length) : TopF kind ids ll (treeOf kind (lvN ll) (lvN ll).length 0) := by
  have hm' := hm
  rw [mayB, Bool.and_eq_true] at hm'
  have hk : kind = 1 ∨ kind = 2 := by simpa using hm'.1
  obtain ⟨h1, h2, h3, _⟩ := chkT_lv hm'.2
  have hs := lvOK_sum _ _ h3
  have hw0 := wideN_pos hs h0 _ (Nat.le_refl _)
  have hw1 := wideN_top _ _ h3
  obtain ⟨o1, o2, o3⟩ := treeOf_ok (kind := kind) hs _ 0 (Nat.le_refl _) hw0
  refine ⟨hk, o1, treeOf_good _ _ _ _, by rw [o2, leafS_zero], ?_, ?_, treeOf_size hs (Nat.le_refl _) hw0, h1, treeOf_high _ _ _ _, lvOK_high _ _ h3 h0, okI_rise _ h2⟩
  · rw [o3, show 0 + 1 = wideN ids.length (lvN ll) (lvN ll).length by omega]
    exact leafS_all hs _ (Nat.le_refl _)
  · rw [nodesI, if_pos hm, nodesU, if_neg (by omega)]
theorem path_top {kind : Int} {ids : List Int} {ll : List (List Int)} {id : Int} {T : RT} (hT : TopF kind ids ll T) (hm : mayB kind ids ll = true) (hi : isT ids id = true) : pathI kind ids ll id = T.path 0 (belT ids id) ∧ belT ids id < ids.length := by
  obtain ⟨hb, _⟩ := rise_bel ids id hT.rise hi
  refine ⟨?_, hb⟩
  rw [pathI, if_pos ⟨hm, hi⟩, hT.nodes, wayI_of]
  exact RT.way T 0 (-1) _ hT.ok (by rw [hT.fr]; omega) (by rw [hT.to_]; exact hb)
theorem bel_get {ids : List Int} (hr : ids.Pairwise (· < ·)) {p : Nat} (hp : p < ids.length) : isT ids ids[p] = true ∧ belT ids ids[p] = p := by
  have hi : isT ids ids[p] = true := by
    rw [isT, List.any_eq_true]
    exact ⟨_, List.getElem_mem hp, by simp⟩
  obtain ⟨hb, e⟩ := rise_bel ids ids[p] hr hi
  refine ⟨hi, ?_⟩
  rw [List.pairwise_iff_getElem] at hr
  rcases Nat.lt_trichotomy (belT ids ids[p]) p with h | h | h
  · have := hr _ _ hb hp h; omega
  · exact h
  · have := hr _ _ hp hb h; omega
/-- a way up: its leaf is the first one, and each has the next one above -/
structure WayF (ns : List RN) (p : Nat) (P : List Nat) : Prop where
  chain : chainP ns P (-1)
  first : ∃ a t x, P = a :: t ∧ ns[a]? = some x ∧ x.lev = 0 ∧ x.at_ = p ∧ x.kids = [] ∧ ∀ (i : Nat) (y : RN), i < a → ns[i]? = some y → ¬ (y.lev = 0 ∧ y.at_ = p)
  rise : P.Pairwise (· < ·)
  last : P.getLast? = some (ns.length - 1)
  has : ∀ k ∈ P, ∃ y, ns[k]? = some y ∧ hasP p y = true
theorem way_top {kind : Int} {ids : List Int} {ll : List (List Int)} {T : RT} (hT : TopF kind ids ll T) {p : Nat} (hp : p < ids.length) : WayF (T.flat 0 (-1)) p (T.path 0 p) := by
  have h1 : T.fr ≤ p := by rw [hT.fr]; omega
  have h2 : p < T.to := by rw [hT.to_]; exact hp
  have hw := RT.way T 0 (-1) p hT.ok h1 h2
  have hc := RT.chain T [] [] (-1) p hT.ok h1 h2
  obtain ⟨a, t, x, e1, e2, e3, e4, e5⟩ := RT.path_leaf T [] [] (-1) p hT.ok h1 h2
  have hk := fun q y => RT.kid_ok T [] [] (-1) hT.good hT.ok q y
  have hl := RT.path_last T 0 p
  simp only [List.length_nil, List.nil_append, List.append_nil, Nat.zero_add] at hc e1 e2 hk hl
  refine ⟨hc, ⟨a, t, x, e1, e2, e3, e4, e5, fun i y hi hy hb => ?_⟩, by rw [← hw]; exact way_rise _ _ _, by rw [RT.flat_len]; exact hl, fun k hk' => ?_⟩
  · have hmin := way_min p 0 _ a t (hw.trans e1) i y hy (by omega)
    have hlt : i < T.size := by rw [← RT.flat_len T 0 (-1)]; exact (List.getElem?_eq_some_iff.1 hy).1
    have h3 := (hk i y (by omega) (by omega) hy).2.2.1 hb.1
    simp only [hasP, Bool.and_eq_false_iff, decide_eq_false_iff_not] at hmin
    omega
  · rw [← hw] at hk'
    obtain ⟨_, y, h3, h4⟩ := way_mem p 0 _ k hk'
    exact ⟨y, by simpa using h3, h4⟩

theorem highT_le (f : Int → Nat) (m : Int) (hm : 0 ≤ m) (ids : List Int) (h : ∀ id ∈ ids, (f id : Int) - 1 ≤ m) : highT f ids ≤ m := by
  have aux : ∀ (ids : List Int) (h0 : Int), h0 ≤ m → (∀ id ∈ ids, (f id : Int) - 1 ≤ m) → ids.foldl (fun h id => max h ((f id : Int) - 1)) h0 ≤ m := by
    intro ids
    induction ids with
    | nil => intro h0 h1 _; exact h1
    | cons id ids ih =>
      intro h0 h1 h2
      exact ih _ (by have := h2 id (by simp); simp only; omega) (fun x hx => h2 x (by simp [hx]))
  exact aux ids 0 hm h
theorem highT_ge (f : Int → Nat) (ids : List Int) {id : Int} (h : id ∈ ids) : (f id : Int) - 1 ≤ highT f ids := by
  have mono : ∀ (ids : List Int) (h0 : Int), h0 ≤ ids.foldl (fun h id => max h ((f id : Int) - 1)) h0 := by
    intro ids
    induction ids with
    | nil => intro h0; exact Int.le_refl _
    | cons id ids ih => intro h0; exact Int.le_trans (by simp only; omega) (ih _)
  have aux : ∀ (ids : List Int) (h0 : Int), id ∈ ids → (f id : Int) - 1 ≤ ids.foldl (fun h id => max h ((f id : Int) - 1)) h0 := by
    intro ids
    induction ids with
    | nil => intro h0 hm; simp at hm
    | cons x ids ih =>
      intro h0 hm
      rcases List.mem_cons.1 hm with rfl | hm
      · exact Int.le_trans (by simp only; omega) (mono ids _)
      · exact ih _ hm
  exact aux ids 0 h
theorem high_top {kind : Int} {ids : List Int} {ll : List (List Int)} {T : RT} (hT : TopF kind ids ll T) (hm : mayB kind ids ll = true) : highI kind ids ll = (T.high : Int) := by
  rw [highI, if_pos hm]
  apply Int.le_antisymm
  · refine highT_le _ _ (by omega) ids fun id hid => ?_
    have hi : isT ids id = true := by
      rw [isT, List.any_eq_true]
      exact ⟨_, hid, by simp⟩
    rw [(path_top hT hm hi).1]
    have := (RT.path_len T 0 (belT ids id)).1
    omega
  · obtain ⟨p, h1, h2, h3⟩ := RT.high_ex T 0 hT.ok
    rw [hT.to_] at h2
    obtain ⟨b1, b2⟩ := bel_get hT.rise h2
    have := highT_ge (fun id => (pathI kind ids ll id).length) ids (List.getElem_mem h2)
    rw [(path_top hT hm b1).1, b2, h3] at this
    omega

theorem sideT_cast (P ks : List Nat) : sideT P (castL ks) = castL (ks.filter fun k => !inT P (k : Int)) := by
  induction ks with
  | nil => rfl
  | cons k ks ih =>
    have e : castL (k :: ks) = (k : Int) :: castL ks := rfl
    rw [e, sideT, List.filter_cons, ← sideT, ih, List.filter_cons]
    cases h : inT P (k : Int)
    · simp only [Bool.not_false, if_true]; rfl
    · simp
theorem inT_mem {P : List Nat} {k : Nat} : inT P (k : Int) = true ↔ k ∈ P := by
  rw [inT, List.any_eq_true]
  constructor
  · rintro ⟨q, h1, h2⟩
    have h3 : (q : Int) = (k : Int) := by simpa using h2
    have : q = k := by omega
    rw [← this]; exact h1
  · exact fun h => ⟨k, h, by simp⟩
theorem kidsAt_i (ns : List RN) (q : Nat) : kidsAt (ns.map RN.i) q = castL (kidsN ns q) := by
  rw [kidsAt, kidsN, List.getElem?_map]
  cases ns[q]? <;> rfl
/-- what is not in the way, of what is below its nodes, is what is beside it -/
theorem bes_tie {ns : List RN} {p : Nat} {P : List Nat} (hW : WayF ns p P) (hk : ∀ (q : Nat) (x : RN), ns[q]? = some x → nodeKid ns q x) : besT P (ns.map RN.i) P = castL (besP ns P) := by
  have hr := hW.rise
  rw [List.pairwise_iff_getElem] at hr
  have key : ∀ (pre : List Nat) (x y : Nat) (l : List Nat), P = pre ++ x :: y :: l → sideT P (kidsAt (ns.map RN.i) y) = castL ((kidsN ns y).filter fun k => k != x) := by
    intro pre x y l hP
    rw [kidsAt_i, sideT_cast]
    congr 1
    apply List.filter_congr
    intro k hkm
    have hxm : x ∈ P := by rw [hP]; simp
    have hym : y ∈ P := by rw [hP]; simp
    obtain ⟨z, hz, _⟩ := hW.has y hym
    rw [kids_at hz] at hkm
    obtain ⟨v, hv1, hv2⟩ := (hk y z hz).2.1 k hkm
    by_cases hkx : k = x
    · subst hkx
      rw [inT_mem.2 hxm]
      simp
    · have : ¬ k ∈ P := by
        intro hkP
        obtain ⟨j, hj, rfl⟩ := List.mem_iff_getElem.1 hkP
        obtain ⟨v', hv3, hv4⟩ := chainP_at ns (-1) P j hW.chain hj
        rw [hv1] at hv3
        have hvv := Option.some.inj hv3
        subst hvv
        rw [hv2] at hv4
        have hj1 : j + 1 < P.length := by
          rcases Nat.lt_or_ge (j + 1) P.length with h | h
          · exact h
          · rw [List.drop_eq_nil_of_le h] at hv4
            simp only [nextU] at hv4
            omega
        rw [List.drop_eq_getElem_cons hj1] at hv4
        simp only [nextU] at hv4
        have e1 : P[j + 1] = y := by omega
        have hpl : pre.length + 1 < P.length := by rw [hP]; simp
        have e2 : P[pre.length + 1] = y := by
          have : P[pre.length + 1]? = some y := by
            rw [hP, List.getElem?_append_right (by omega)]
            simp
          rw [List.getElem?_eq_getElem hpl] at this
          exact Option.some.inj this
        have e3 : j = pre.length := by
          rcases Nat.lt_trichotomy (j + 1) (pre.length + 1) with h | h | h
          · have := hr _ _ hj1 hpl h; omega
          · omega
          · have := hr _ _ hpl hj1 h; omega
        subst e3
        have e4 : P[pre.length]? = some x := by
          rw [hP, List.getElem?_append_right (Nat.le_refl _), Nat.sub_self]
          rfl
        rw [List.getElem?_eq_getElem hj] at e4
        exact hkx (Option.some.inj e4)
      have e : inT P (k : Int) = false := by
        rw [Bool.eq_false_iff]
        exact fun h => this (inT_mem.1 h)
      rw [e]
      simp [hkx]
  have step : ∀ (l pre : List Nat) (x : Nat), P = pre ++ x :: l → (l.map fun q => sideT P (kidsAt (ns.map RN.i) q)).flatten = castL (besP ns (x :: l)) := by
    intro l
    induction l with
    | nil => intro pre x _; rfl
    | cons y l ih =>
      intro pre x hP
      rw [List.map_cons, List.flatten_cons, key pre x y l hP, ih (pre ++ [x]) y (by rw [hP]; simp), besP_two]
      simp [castL]
  obtain ⟨a, t, x, e1, e2, _, _, e5, _⟩ := hW.first
  have h0 : sideT P (kidsAt (ns.map RN.i) a) = [] := by rw [kidsAt_i, kids_at e2, e5]; rfl
  have := step t [] a e1
  unfold besT
  have hh : (P.map fun p => sideT P (kidsAt (ns.map RN.i) p)) = ((a :: t).map fun p => sideT P (kidsAt (ns.map RN.i) p)) := by rw [← e1]
  rw [hh, List.map_cons, List.flatten_cons, h0, List.nil_append, this, ← e1]
theorem kid_top {kind : Int} {ids : List Int} {ll : List (List Int)} {T : RT} (hT : TopF kind ids ll T) : ∀ (q : Nat) (x : RN), (T.flat 0 (-1))[q]? = some x → nodeKid (T.flat 0 (-1)) q x := fun q x hx => by
  have hlt : q < T.size := by rw [← RT.flat_len T 0 (-1)]; exact (List.getElem?_eq_some_iff.1 hx).1
  have := RT.kid_ok T [] [] (-1) hT.good hT.ok q x
  simp only [List.length_nil, List.nil_append, List.append_nil, Nat.zero_add] at this
  exact this (by omega) hlt hx
theorem bes_top {kind : Int} {ids : List Int} {ll : List (List Int)} {id : Int} {T : RT} (hT : TopF kind ids ll T) (hm : mayB kind ids ll = true) (hi : isT ids id = true) : besI kind ids ll id = castL (besP (T.flat 0 (-1)) (T.path 0 (belT ids id))) := by
  obtain ⟨h1, h2⟩ := path_top hT hm hi
  rw [besI, h1, hT.nodes]
  exact bes_tie (way_top hT h2) (kid_top hT)

end Go.Proofs.Ytbickllpledlbaa

