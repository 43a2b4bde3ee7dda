/-
  THE WALK of RedWays (coterielaw11).
-/
import Derived.Test.YtbickllpledlbaaG33
import Derived.Test.YtbickllpledlbaaG36
import Derived.Test.YtbickllpledlbaaG40
import Derived.Test.YtbickllpledlbaaRedWaysP
set_option linter.unusedVariables false
namespace Go.Proofs.Ytbickllpledlbaa
open Go.RowKit

theorem dw_nd {w w' : World} {A : Option Addr} {n c : Nat} {ns : List RI} (h : NdR w w.heap.size A n c ns) (hb : Below w.heap.size w w') : NdR w' w'.heap.size A n c ns := (h.below hb).more hb.size

theorem nd_cells {w : World} {B b1 o1 n c : Nat} {L : List RN} (h : NdR w B (some ⟨b1, o1, none⟩) n c (L.map RN.i)) {k : Nat} {y : RN} (hy : L[k]? = some y) :
    w.cell? ⟨b1, o1 + k * 7 + 3, none⟩ = some (.int .i64 (y.fr : Nat)) ∧ w.cell? ⟨b1, o1 + k * 7 + 4, none⟩ = some (.int .i64 (y.to : Nat)) := by
  obtain ⟨b2, o2, Cu2, eu2, ea2, -, hrb2, -, -, -⟩ := h.range (k := k) (x := y.i) (by rw [List.getElem?_map, hy]; rfl)
  injection ea2 with ea2
  injection ea2 with ea3 ea4
  subst ea3 ea4
  exact ⟨hrb2 3 (.int .i64 (y.fr : Nat)) rfl, hrb2 4 (.int .i64 (y.to : Nat)) rfl⟩

set_option maxRecDepth 100000 in
set_option maxHeartbeats 16000000 in
theorem walk_RedWays (kind : Int) (Ai : Option Addr) (ni ci : Nat) (Al : Option Addr) (nl cl : Nat) (ids : List Int) (ll : List (List Int)) (id : Int) (w : World) (h : ShR w w.heap.size Ai ni ci Al nl cl ids ll) :
    Calls Try.prog 6 #[.int .i64 kind, .agg (shV Ai ni ci Al nl cl), .int .i64 id] w fun e w' => e = .returned (.bool true) ∧ Below w.heap.size w w' := by
  have hM0 := (Ms.nil w).box 25 (shV Ai ni ci Al nl cl)
  have sh := fun wx (hb : Below w.heap.size w wx) => (h.below hb).more hb.size
  have hf1 := fun wx hb => FewT_any Ai ni ci Al nl cl ids ll wx (sh wx hb)
  have c1 := fun (hf : fewT ids ll = true) wx hb => PNodes_any kind Ai ni ci Al nl cl ids ll wx (sh wx hb) hf
  have c3 := fun (hf : fewT ids ll = true) wx hb => PPath_any11 kind Ai ni ci Al nl cl ids ll id wx (sh wx hb) hf
  have c5 := fun (hf : fewT ids ll = true) wx hb => PBeside_any kind Ai ni ci Al nl cl ids ll id wx (sh wx hb) hf
  have cf := fun wx hb => PFind_any Ai ni ci Al nl cl ids id wx h.hni h.hci h.hmi (sh wx hb).hids
  have Hni := Lib.hid h.hni
  clear sh h
  go_enter Try.func6, Try.ntmps6
  go_wp2_with fail
  refine (live11 _).mono ?_
  rintro e w1 ⟨rfl, hb1⟩
  have hM1 := hM0.call hb1
  clear hM0 hb1
  go_wp2_with ((with_reducible show wpList _ _ _ (⟨some 25, _, _, _, _, _⟩ :: _) _ _); refine wpList_loadC (by kernel_rfl) 25 (.tmp 4) rfl w.heap.size rfl 25 (shV Ai ni ci Al nl cl) _ (hM1.get 0 rfl) Try.underlying25 rfl shapeInfo2 ?_)
  refine (hf1 _ hM1.old).mono ?_
  rintro e w2 ⟨rfl, hb2⟩
  have hM2 := hM1.call hb2
  have k0 := (hM2.get 0 rfl).cell (i := 0) (v := .slice Ai ni ci) rfl
  clear hM1 hb2 hf1
  have hret := hM2.old
  by_cases hfw : fewT ids ll = true
  rotate_left
  · have hff : fewT ids ll = false := by simpa using hfw
    rw [hff]
    clear hM2 c1 c3 c5 cf
    go_wp2_with fail
    go_ret
    exact ⟨rfl, hret⟩
  rw [hfw]
  have d1 := c1 hfw
  have d3 := c3 hfw
  have d5 := c5 hfw
  by_cases hn : 120 < ni
  · have hn1 : (120 : Int) < (ni : Int) := by omega
    clear hM2 c1 c3 c5 cf d1 d3 d5
    go_wp2_with fail
    go_ret
    exact ⟨rfl, hret⟩
  have hn1 : ¬ (120 : Int) < (ni : Int) := by omega
  have hn120 : ni ≤ 120 := by omega
  clear c1 c3 c5 hret hn hfw
  go_wp2_with ((with_reducible show wpList _ _ _ (⟨some 37, _, _, _, _, _⟩ :: _) _ _); refine wpList_loadC (by kernel_rfl) 25 (.tmp 4) rfl w.heap.size rfl 25 (shV Ai ni ci Al nl cl) _ (hM2.get 0 rfl) Try.underlying25 rfl shapeInfo2 ?_)
  refine (d1 _ hM2.old).mono ?_
  rintro e w3 ⟨hb, A1, n1, a1, rfl, r1⟩
  have hM3 := hM2.call hb
  clear hM2 hb d1 k0
  go_wp2_with ((with_reducible show wpList _ _ _ (⟨some 43, _, _, _, _, _⟩ :: _) _ _); refine wpList_loadC (by kernel_rfl) 25 (.tmp 4) rfl w.heap.size rfl 25 (shV Ai ni ci Al nl cl) _ (hM3.get 0 rfl) Try.underlying25 rfl shapeInfo2 ?_)
  refine (d3 _ hM3.old).mono ?_
  rintro e w4 ⟨hb, A3, n3, a3, rfl, x3, y3, r3⟩
  have hM4 := hM3.call hb
  replace r1 := dw_nd r1 hb
  clear hM3 hb d3
  go_wp2_with ((with_reducible show wpList _ _ _ (⟨some 50, _, _, _, _, _⟩ :: _) _ _); refine wpList_loadC (by kernel_rfl) 25 (.tmp 4) rfl w.heap.size rfl 25 (shV Ai ni ci Al nl cl) _ (hM4.get 0 rfl) Try.underlying25 rfl shapeInfo2 ?_)
  refine (d5 _ hM4.old).mono ?_
  rintro e w5 ⟨hb, A5, n5, a5, rfl, x5, y5, r5⟩
  have hM5 := hM4.call hb
  replace r1 := dw_nd r1 hb
  replace r3 := (r3.below hb).more hb.size
  clear hM4 hb d5
  have hold5 := hM5.old
  have hcase : (pathE kind ids ll id = 0 ∧ mayB kind ids ll = true ∧ isT ids id = true) ∨ ((pathE kind ids ll id = 1 ∨ pathE kind ids ll id = 6) ∧ pathI kind ids ll id = []) := by
    rw [pathE, pathI]
    cases mayB kind ids ll <;> cases isT ids id <;> simp
  rcases hcase with ⟨hpe, hmb, hit⟩ | ⟨hpe, hpi⟩
  rotate_left
  · rw [besI, hpi] at r5
    rw [hpi] at r3
    obtain rfl : n3 = 0 := by have := r3.len; simpa [kidV] using this.symm
    obtain rfl : n5 = 0 := by have := r5.len; simpa [besT] using this.symm
    clear r1 r3 r5 hM5 cf
    rcases hpe with hpe | hpe
    all_goals
      rw [hpe]
      clear hpe
      go_wp2_with fail
      go_ret
      exact ⟨rfl, hold5⟩
  have hi0 : 0 < ids.length := by
    cases hids : ids with
    | nil => rw [hids] at hit; simp [isT] at hit
    | cons x l => simp
  have hT := top_facts hmb hi0
  obtain ⟨q1, q2⟩ := path_top hT hmb hit
  have q3 := bes_top hT hmb hit
  have F := ways_facts hT q2
  have hme : mayE kind ids ll = 0 := by rw [mayE, if_pos hmb]
  rw [hT.nodes] at r1
  rw [q1] at r3
  rw [q3, castL_iv] at r5
  rw [hpe, hme]
  have hf2 := cf w5 hold5
  rw [hit] at hf2
  rw [Hni.out] at F q2
  have hL2 : (RT.flat (treeOf kind (lvN ll) (lvN ll).length 0) 0 (-1)).length ≤ 2000 := by
    have h1 := hT.size
    have h2 := hT.n
    rw [RT.flat_len]
    omega
  generalize RT.flat (treeOf kind (lvN ll) (lvN ll).length 0) 0 (-1) = L at *
  generalize RT.path (treeOf kind (lvN ll) (lvN ll).length 0) 0 (belT ids id) = P at *
  generalize belT ids id = p at *
  generalize hB : besP L P = B at *
  clear hB q1 q3 hT hpe hmb hme hit hi0 cf
  have HF := Lib.hid F
  have l1 := r1.len
  have l3 := r3.len
  have l5 := r5.len
  rw [List.length_map] at l1
  rw [kidV, List.length_map] at l3 l5
  have Hl1 := Lib.hid l1
  have Hl3 := Lib.hid l3
  have Hl5 := Lib.hid l5
  obtain ⟨g1, yt, g2, g3⟩ := F.top
  have g4 := F.some_
  have g5 := F.last
  have hn12 : n1 ≤ 2000 := by omega
  rw [l1] at g1 g2
  rw [l3] at g4
  clear F l1 l3 l5 hL2
  go_wp2_with ((with_reducible show wpList _ _ _ (⟨some 74, _, _, _, _, _⟩ :: _) _ _); refine wpList_loadC (by kernel_rfl) 25 (.tmp 4) rfl w.heap.size rfl 25 (shV Ai ni ci Al nl cl) _ (hM5.get 0 rfl) Try.underlying25 rfl shapeInfo2 ?_)
  refine hf2.mono ?_
  rintro e w6 ⟨rfl, hb⟩
  have hM6 := hM5.call hb
  replace r1 := dw_nd r1 hb
  replace r3 := (r3.below hb).more hb.size
  replace r5 := (r5.below hb).more hb.size
  clear hM5 hb hf2 hold5
  have hold6 := hM6.old
  rw [maxLen] at y3 y5
  obtain ⟨b3, o3, rfl, hb3, hc3⟩ := r3.pos g4
  obtain ⟨e3, he3⟩ : ∃ e3, n3 = e3 + 1 := ⟨n3 - 1, by omega⟩
  obtain ⟨e1, he1⟩ : ∃ e1, n1 = e1 + 1 := ⟨n1 - 1, by omega⟩
  have He3 := Lib.hid he3
  have He1 := Lib.hid he1
  have k3 : w6.cell? ⟨b3, o3 + e3, none⟩ = some (.int .i64 (e1 : Nat)) := by
    have h1 : P.length - 1 < P.length := by rw [Hl3.out]; omega
    have h2 := hc3 (P.length - 1) (.int .i64 (P[P.length - 1] : Nat)) (by rw [kidV, List.getElem?_map, List.getElem?_eq_getElem h1]; rfl)
    rw [g5 h1, Hl3.out, Hl1.out, he1, he3] at h2
    simpa using h2
  have z1 : IntKind.i64.wrap ((n3 : Int) - 1) = (e3 : Int) := by rw [IntKind.wrap_i64]; omega
  have z2 : IntKind.i64.wrap ((n1 : Int) - 1) = (e1 : Int) := by rw [IntKind.wrap_i64]; omega
  have z3 : (e3 : Int) < (n3 : Int) := by omega
  have z4 : ((n3 : Int) == 0) = false := by simp only [beq_eq_false_iff_ne]; omega
  have z5 : ¬ (n3 : Int) = 0 := by omega
  have z6 : ¬ n3 = 0 := by omega
  clear he3 he1 g5
  go_wp2_with fail
  go_loopw [108] (fun v108 wx => ∃ i : Nat, i ≤ n3 ∧ v108 = .int .i64 (i : Int) ∧ w6 = wx) (fun v108 _ => n3 - (intOf v108).toNat)
  case atStart => exact ⟨0, by omega, rfl, rfl⟩
  case round =>
    obtain ⟨i, hi, rfl, rfl⟩ := hrel
    by_cases hik : i < n3
    · have hix : i < P.length := by rw [Hl3.out]; exact hik
      obtain ⟨y, hy, y1, y2, ylev⟩ := HF.out.way i hix
      have dP := hc3 i (.int .i64 (P[i] : Nat)) (by rw [kidV, List.getElem?_map, List.getElem?_eq_getElem hix]; rfl)
      have hkn : P[i] < n1 := by rw [← Hl1.out]; exact (List.getElem?_eq_some_iff.1 hy).1
      obtain ⟨b1, o1, Cu, eu, ea, -, hrb, -, -, -⟩ := r1.range (k := P[i]) (x := y.i) (by rw [List.getElem?_map, hy]; rfl)
      have s0 := hrb 0 (.int .i64 (y.lev : Nat)) rfl
      have s3 := hrb 3 (.int .i64 (y.fr : Nat)) rfl
      have s4 := hrb 4 (.int .i64 (y.to : Nat)) rfl
      clear hrb
      have zi : (i : Int) < (n3 : Int) := by omega
      have zk0 : (0 : Int) ≤ (P[i] : Int) := by omega
      have zk : (P[i] : Int) < (n1 : Int) := by omega
      have zk2 : decide ((n1 : Int) ≤ (P[i] : Int)) = false := decide_eq_false (by omega)
      have zk3 : ((n1 : Int) ≤ (P[i] : Int)) = False := eq_false (by omega)
      have zf2 : decide ((p : Int) < (y.fr : Int)) = false := decide_eq_false (by omega)
      have zf3 : ((p : Int) < (y.fr : Int)) = False := eq_false (by omega)
      have zt2 : decide ((y.to : Int) ≤ (p : Int)) = false := decide_eq_false (by omega)
      have zt3 : ((y.to : Int) ≤ (p : Int)) = False := eq_false (by omega)
      rw [Nat.add_zero] at s0
      subst ea
      rcases Nat.eq_zero_or_pos i with h0 | h0
      · subst h0
        rw [ylev rfl] at s0
        rw [Nat.add_zero] at dP
        generalize P[0] = k at *
        clear hy ylev
        go_wp2_with fail
        go_roundw
        case rel => exact ⟨1, by omega, by go_num, by trivial⟩
        case measure => simp [intOf]; omega
      · obtain ⟨j0, hj0⟩ : ∃ j0, i = j0 + 1 := ⟨i - 1, by omega⟩
        have hjx : j0 + 1 < P.length := by omega
        obtain ⟨z, hz, hzup⟩ := HF.out.up j0 hjx
        rw [show P[j0 + 1] = P[i] by simp only [hj0]] at hzup
        have dQ := hc3 j0 (.int .i64 (P[j0] : Nat)) (by rw [kidV, List.getElem?_map, List.getElem?_eq_getElem (by omega)]; rfl)
        have hqn : P[j0] < n1 := by rw [← Hl1.out]; exact (List.getElem?_eq_some_iff.1 hz).1
        obtain ⟨b2, o2, Cu2, eu2, ea2, -, hrb2, -, -, -⟩ := r1.range (k := P[j0]) (x := z.i) (by rw [List.getElem?_map, hz]; rfl)
        injection ea2 with ea2
        injection ea2 with ea3 ea4
        subst ea3 ea4
        have s6 := hrb2 6 (.int .i64 z.up) rfl
        rw [hzup] at s6
        clear hrb2 hz hzup hy ylev
        generalize P[j0] = kq at *
        generalize P[i] = k at *
        have zq0 : (0 : Int) ≤ (kq : Int) := by omega
        have zq : (kq : Int) < (n1 : Int) := by omega
        have zi0 : ((i : Int) == 0) = false := by simp only [beq_eq_false_iff_ne]; omega
        have zi1 : ¬ (i : Int) = 0 := by omega
        have zi2 : ¬ i = 0 := by omega
        have zi3 : (0 : Int) < (i : Int) := by omega
        have zw : IntKind.i64.wrap ((i : Int) - 1) = (j0 : Int) := by rw [IntKind.wrap_i64]; omega
        have zj : (j0 : Int) < (n3 : Int) := by omega
        have Hj0 := Lib.hid hj0
        clear hj0 hjx
        go_wp2_with fail
        go_roundw
        case rel => exact ⟨i + 1, by omega, by go_num, by trivial⟩
        case measure => simp [intOf]; omega
    · obtain rfl : i = n3 := by omega
      obtain ⟨b1, o1, Cu, eu, ea, -, hrb, -, -, -⟩ := r1.range (k := e1) (x := yt.i) (by rw [List.getElem?_map, show e1 = n1 - 1 by have := He1.out; omega, g2]; rfl)
      have s6 := hrb 6 (.int .i64 yt.up) rfl
      rw [g3] at s6
      clear hrb z1 z3 z4 z5 z6 k3 hc3 r3
      have ze : (e1 : Int) < (n1 : Int) := by have := He1.out; omega
      have ze0 : (0 : Int) ≤ (e1 : Int) := by omega
      have k0 := (hM6.get 0 rfl).cell (i := 0) (v := .slice Ai ni ci) rfl
      obtain ⟨i1, hi1, hy0, hy1, hy2⟩ := info_parts intInfo
      have hmk := run_make (P := Try.prog) w6 22 3 i1 (.int .i64 0) Try.underlying22 hi1 hy0 .i64 .i64 (ni : Int) (ni : Int) (by omega) (by omega) (by rw [hy2]; omega) (by omega)
      rw [show ((ni : Int)).toNat = ni by omega, hy1, Nat.mul_one, show (Value.int .i64 0).cells = #[Value.int .i64 0] from rfl, abv_made] at hmk
      have Hmk := Lib.hid hmk
      clear hmk
      subst ea
      go_upto_region 21 with (at_make; refine wpList_makeT (by kernel_rfl) _ _ 22 rfl _ _ rfl rfl Hmk.out ?_)
      try simp only [Act.put]
      have hM7 := (Ms.nil w6).box 3 (abvC ni fun _ => 0)
      obtain ⟨gA, hgA⟩ : ∃ gA, gA = w6.heap.size := ⟨_, rfl⟩
      rw [← hgA] at hM7 ⊢
      have hgl : w6.heap.size ≤ gA := by omega
      refine wp_gen (fun wx => Ms w6 wx [(gA, 3, abvC ni fun _ => 0)]) hM7 ?_
      clear hM7 Hmk hgA s6 k0
      rintro w7 hM7
      have c7 := (hM7.get 0 rfl).cell (abvC_at (fun _ => (0 : Int)) q2)
      have f7 := (hM7.get 0 rfl).frozen p
      have zp : (p : Int) < (ni : Int) := by omega
      have zp0 : (0 : Int) ≤ (p : Int) := by omega
      have hM8 := hM7.setCellT hgl (fun p hp => by cases hp) p (.int .i64 1)
      rw [abvC_set] at hM8
      clear hM7
      go_upto_region 22 with fail
      try simp only [Act.put]
      refine wp_gen (fun wx => Ms w6 wx [(gA, 3, abvC ni fun j => if j = p then 1 else 0)]) hM8 ?_
      clear hM8 c7 f7
      rintro w8 hM8
      rw [show (fun j => if j = p then (1 : Int) else 0) = fun j => ((if j = p then 1 else 0 : Nat) : Int) by funext j; by_cases h : j = p <;> simp [h]] at hM8
      have Hq2 := Lib.hid q2
      clear q2
      go_wp2_with fail
      go_loopw [189] (fun v189 wx => ∃ (j : Nat) (f : Nat → Nat), j ≤ n5 ∧ v189 = .int .i64 (j : Int) ∧ (∀ i, f i = (if i = p then 1 else 0) + cov L i (B.take j)) ∧ Ms w6 wx [(gA, 3, abvC ni fun i => (f i : Int))]) (fun v189 _ => n5 - (intOf v189).toNat)
      case atStart => exact ⟨0, _, by omega, rfl, fun i => by simp [cov], hM8⟩
      case round =>
        clear hM8
        obtain ⟨j, f, hj, rfl, hf, hM⟩ := hrel
        have Hf := Lib.hid hf
        clear hf
        by_cases hjn : j < n5
        · have hjx : j < B.length := by rw [Hl5.out]; exact hjn
          obtain ⟨y, hy⟩ := HF.out.bes B[j] (List.getElem_mem hjx)
          obtain ⟨b5, o5, rfl, -, hc5⟩ := (r5.below hM.old).pos (by omega)
          have d5 := hc5 j (.int .i64 (B[j] : Nat)) (by rw [kidV, List.getElem?_map, List.getElem?_eq_getElem hjx]; rfl)
          have hkn : B[j] < n1 := by rw [← Hl1.out]; exact (List.getElem?_eq_some_iff.1 hy).1
          obtain ⟨s3, s4⟩ := nd_cells (r1.below hM.old) hy
          have Hs4 := Lib.hid (fun wx (hb : Below w6.heap.size w6 wx) => (nd_cells (r1.below hb) hy).2)
          have Hin := Lib.hid (fun i h1 h2 => HF.out.in_ hjx hy (i := i) h1 h2)
          have Hcv := Lib.hid (fun i => cov_take hjx hy i)
          have Hfew := Lib.hid (fun i => HF.out.few i j)
          clear hc5 hy
          generalize B[j] = k at *
          have zj : (j : Int) < (n5 : Int) := by omega
          have zk : (k : Int) < (n1 : Int) := by omega
          have zk0 : (0 : Int) ≤ (k : Int) := by omega
          have zk2 : decide ((n1 : Int) ≤ (k : Int)) = false := decide_eq_false (by omega)
          have zk3 : ((n1 : Int) ≤ (k : Int)) = False := eq_false (by omega)
          have HM := Lib.hid hM
          clear hM
          go_wp2_with fail
          go_loopw [21] (fun v21 wx => ∃ (q : Nat) (f : Nat → Nat), y.fr ≤ q ∧ (q ≤ y.to ∨ q = y.fr) ∧ v21 = .int .i64 (q : Int) ∧ (∀ i, f i = (if i = p then 1 else 0) + cov L i (B.take j) + onI y.fr q i) ∧ Ms w6 wx [(gA, 3, abvC ni fun i => (f i : Int))]) (fun v21 _ => y.to - (intOf v21).toNat)
          case atStart => exact ⟨y.fr, f, by omega, .inr rfl, rfl, fun i => by rw [onI_none, Nat.add_zero]; exact Hf.out i, HM.out⟩
          case round =>
            clear HM Hf s3 s4 d5
            obtain ⟨q, f, hq1, hq2, rfl, hf, hM⟩ := hrel
            have s4 := Hs4.out _ hM.old
            have Hf := Lib.hid hf
            clear hf
            by_cases hqt : q < y.to
            · have hqn : q < ni := Hin.out q hq1 hqt
              have c7 := (hM.get 0 rfl).cell (abvC_at (fun i => (f i : Int)) hqn)
              have f7 := (hM.get 0 rfl).frozen q
              have hfq : f q ≤ 1 := by
                have h1 := Hf.out q
                have h2 := Hfew.out q
                have h3 : onI y.fr q q = 0 := by unfold onI; split <;> omega
                omega
              have zw : IntKind.i64.wrap ((f q : Int) + 1) = (f q : Int) + 1 := by rw [IntKind.wrap_i64]; omega
              have hM8 := hM.setCellT hgl (fun p hp => by cases hp) q (.int .i64 ((f q : Int) + 1))
              rw [abvC_set, show (fun j => if j = q then (f q : Int) + 1 else (f j : Int)) = fun j => ((if j = q then f q + 1 else f j : Nat) : Int) by funext j; by_cases h : j = q <;> simp [h]] at hM8
              have hf8 : ∀ i, (if i = q then f q + 1 else f i) = (if i = p then 1 else 0) + cov L i (B.take j) + onI y.fr (q + 1) i := by
                intro i
                rw [onI_step hq1]
                have h1 := Hf.out i
                by_cases h : i = q
                · subst h
                  rw [if_pos rfl, if_pos rfl]
                  omega
                · rw [if_neg h, if_neg h]
                  omega
              have zq : (q : Int) < (y.to : Int) := by omega
              have zq0 : (0 : Int) ≤ (q : Int) := by omega
              have zq1 : (q : Int) < (ni : Int) := by omega
              have zq2 : decide ((ni : Int) ≤ (q : Int)) = false := decide_eq_false (by omega)
              have zq3 : ((ni : Int) ≤ (q : Int)) = False := eq_false (by omega)
              have zq4 : IntKind.i64.wrap ((q : Int) + 1) = (q : Int) + 1 := by rw [IntKind.wrap_i64]; omega
              have Hf8 := Lib.hid hf8
              clear hf8 hM hfq
              go_wp2_with fail
              go_roundw
              case rel => exact ⟨q + 1, _, by omega, .inl (by omega), by go_num, Hf8.out, hM8⟩
              case measure => simp [intOf]; omega
            · have zq : ¬ (q : Int) < (y.to : Int) := by omega
              have hfz : ∀ i, f i = (if i = p then 1 else 0) + cov L i (B.take (j + 1)) := by
                intro i
                have h1 := Hf.out i
                have h2 := Hcv.out i
                have h3 : onI y.fr q i = onI y.fr y.to i := by
                  unfold onI
                  split <;> split <;> omega
                omega
              have Hfz := Lib.hid hfz
              clear hfz
              go_wp2_with fail
              go_roundw
              case rel => exact ⟨j + 1, f, by omega, by go_num, Hfz.out, hM⟩
              case measure => simp [intOf]; omega
        · obtain rfl : j = n5 := by omega
          have hone : ∀ i, i < ni → f i = 1 := by
            intro i hi
            have h1 := Hf.out i
            have h2 := HF.out.cover i
            rw [← Hl5.out, List.take_length] at h1
            have h3 : onI 0 ni i = 1 := by
              unfold onI
              exact if_pos ⟨Nat.zero_le _, hi⟩
            omega
          have Hone := Lib.hid hone
          clear hone
          have HM := Lib.hid hM
          clear hM
          go_wp2_with fail
          go_loopw [232] (fun v232 wx => ∃ i : Nat, i ≤ ni ∧ v232 = .int .i64 (i : Int) ∧ Ms w6 wx [(gA, 3, abvC ni fun i => (f i : Int))]) (fun v232 _ => ni - (intOf v232).toNat)
          case atStart => exact ⟨0, by omega, rfl, HM.out⟩
          case round =>
            clear HM
            obtain ⟨i, hi, rfl, hM⟩ := hrel
            have hret := hold6.trans (hM.old.mono hold6.size)
            by_cases hin : i < ni
            · have zi : (i : Int) < (ni : Int) := by omega
              have c7 : wr.cell? ⟨gA, i, none⟩ = some (.int .i64 1) := by
                have h1 := (hM.get 0 rfl).cell (abvC_at (fun i => (f i : Int)) hin)
                rw [Hone.out i hin] at h1
                exact h1
              go_wp2_with fail
              go_roundw
              case rel => exact ⟨i + 1, by omega, by go_num, hM⟩
              case measure => simp [intOf]; omega
            · obtain rfl : i = ni := by omega
              clear hM
              go_wp2_with fail
              go_ret
              exact ⟨rfl, hret⟩

end Go.Proofs.Ytbickllpledlbaa
