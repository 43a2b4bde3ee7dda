/-
  CONTRACTS of the program's least, Same (package fe).
-/
import Derived.Test.YtimgnpcojamafaaFeB
import Derived.Test.YtimgnpcojamafaaReg
import Derived.Deep.RegionHeld3
set_option linter.unusedVariables false
namespace Go.Proofs.Ytimgnpcojamafaa
open Go.RowKit

/-- part number k -/
def prt (c : Fe5) (k : Nat) : Nat := [c.a0, c.a1, c.a2, c.a3, c.a4].getD k 0
/-- what goes over, part by part, where r more is added -/
def ovR (c : Fe5) (r : Nat) : Nat → Nat
  | 0 => r
  | n + 1 => (prt c n + ovR c r n) / 2251799813685248
theorem prt_at (c : Fe5) {k : Nat} (hk : k < 5) : ([c.a0, c.a1, c.a2, c.a3, c.a4] : List Nat)[k]? = some (prt c k) := by
  have h : k = 0 ∨ k = 1 ∨ k = 2 ∨ k = 3 ∨ k = 4 := by omega
  rcases h with rfl | rfl | rfl | rfl | rfl <;> rfl
theorem prt_lt {c : Fe5} (h : MayF c) (k : Nat) : prt c k < 4503599627370496 := by
  obtain ⟨h0, h1, h2, h3, h4⟩ := h
  by_cases hk : k < 5
  · have h : k = 0 ∨ k = 1 ∨ k = 2 ∨ k = 3 ∨ k = 4 := by omega
    rcases h with rfl | rfl | rfl | rfl | rfl <;> assumption
  · unfold prt
    rw [List.getD_eq_getElem?_getD, List.getElem?_eq_none (by simp; omega)]
    simp
theorem ovR_le {c : Fe5} (h : MayF c) {r : Nat} (hr : r ≤ 361) : ∀ n, ovR c r n ≤ 361
  | 0 => hr
  | n + 1 => by
    have h1 := ovR_le h hr n
    have h2 := prt_lt h n
    rw [ovR]
    omega
theorem ovR5_le {c : Fe5} (h : MayF c) {r : Nat} (hr : r ≤ 361) : ovR c r 5 ≤ 19 := by
  have h1 := ovR_le h hr 4
  have h2 := prt_lt h 4
  rw [ovR]
  omega
theorem feC_q (c : Fe5) : feC c = qC [c.a0, c.a1, c.a2, c.a3, c.a4] := by simp [feC, qC, qv]

/-- the parts where r is added, and what goes over is put to the next one -/
def addR (c : Fe5) (r : Nat) : Fe5 :=
  ⟨(c.a0 + r) % 2251799813685248, (c.a1 + (c.a0 + r) / 2251799813685248) % 2251799813685248, (c.a2 + (c.a1 + (c.a0 + r) / 2251799813685248) / 2251799813685248) % 2251799813685248,
   (c.a3 + (c.a2 + (c.a1 + (c.a0 + r) / 2251799813685248) / 2251799813685248) / 2251799813685248) % 2251799813685248,
   (c.a4 + (c.a3 + (c.a2 + (c.a1 + (c.a0 + r) / 2251799813685248) / 2251799813685248) / 2251799813685248) / 2251799813685248) % 2251799813685248⟩

theorem parts_of {q0 q1 q2 q3 q4 : Nat} (h0 : q0 < 2251799813685248) (h1 : q1 < 2251799813685248) (h2 : q2 < 2251799813685248) (h3 : q3 < 2251799813685248) (h4 : q4 < 2251799813685248) :
    partsU (valF ⟨q0, q1, q2, q3, q4⟩) = ⟨q0, q1, q2, q3, q4⟩ := by
  simp only [partsU, valF, Fe5.mk.injEq]
  refine ⟨by omega, by omega, by omega, by omega, by omega⟩

theorem least_gen {c0 c1 c2 c3 c4 o1 o2 o3 o4 o5 t0 t1 t2 t3 t4 q0 q1 q2 q3 q4 V : Nat} (hV : V = valF ⟨c0, c1, c2, c3, c4⟩) (hlt : V < 2 * P25)
    (e1 : o1 = (c0 + 19) / 2251799813685248) (e2 : o2 = (c1 + o1) / 2251799813685248) (e3 : o3 = (c2 + o2) / 2251799813685248) (e4 : o4 = (c3 + o3) / 2251799813685248) (e5 : o5 = (c4 + o4) / 2251799813685248)
    (s0 : t0 = c0 + 19 * o5) (s1 : t1 = c1 + t0 / 2251799813685248) (s2 : t2 = c2 + t1 / 2251799813685248) (s3 : t3 = c3 + t2 / 2251799813685248) (s4 : t4 = c4 + t3 / 2251799813685248)
    (r0 : q0 = t0 % 2251799813685248) (r1 : q1 = t1 % 2251799813685248) (r2 : q2 = t2 % 2251799813685248) (r3 : q3 = t3 % 2251799813685248) (r4 : q4 = t4 % 2251799813685248) :
    valF ⟨q0, q1, q2, q3, q4⟩ = V % P25 := by
  simp only [valF, P25] at *
  have k5 : o5 = (V + 19) / 57896044618658097711785492504343953926634992332820282019728792003956564819968 := by omega
  have k6 : q0 + 2251799813685248 * (q1 + 2251799813685248 * (q2 + 2251799813685248 * (q3 + 2251799813685248 * q4))) = (V + 19 * o5) % 57896044618658097711785492504343953926634992332820282019728792003956564819968 := by omega
  rw [k6]
  clear k6 r0 r1 r2 r3 r4 s0 s1 s2 s3 s4 e1 e2 e3 e4 e5 hV
  by_cases hv : V < 57896044618658097711785492504343953926634992332820282019728792003956564819949
  · have h0 : o5 = 0 := by omega
    rw [h0, Nat.mul_zero, Nat.add_zero, Nat.mod_eq_of_lt hv, Nat.mod_eq_of_lt (by omega)]
  · have h1 : o5 = 1 := by omega
    rw [h1, Nat.mul_one, Nat.mod_eq_sub_mod (show 57896044618658097711785492504343953926634992332820282019728792003956564819949 ≤ V by omega), Nat.mod_eq_sub_mod (show 57896044618658097711785492504343953926634992332820282019728792003956564819968 ≤ V + 19 by omega),
      Nat.mod_eq_of_lt (show V + 19 - 57896044618658097711785492504343953926634992332820282019728792003956564819968 < _ by omega), Nat.mod_eq_of_lt (show V - 57896044618658097711785492504343953926634992332820282019728792003956564819949 < _ by omega)]
    omega

theorem carU_low {f : Fe5} (h : MayF f) : valF (carU f) < 2 * P25 := by
  obtain ⟨x0, x1, x2, x3, x4⟩ := f
  obtain ⟨h0, h1, h2, h3, h4⟩ := h
  simp only [valF, carU, P25] at *
  omega

theorem least_eq {f : Fe5} (h : MayF f) : addR (carU f) (19 * ovR (carU f) 19 5) = leastU f := by
  have hl := carU_low h
  rw [leastU, ← carU_val]
  generalize carU f = c at *
  obtain ⟨c0, c1, c2, c3, c4⟩ := c
  have g := least_gen (V := valF ⟨c0, c1, c2, c3, c4⟩) rfl hl rfl rfl rfl rfl rfl rfl rfl rfl rfl rfl rfl rfl rfl rfl rfl
  rw [← g, parts_of (Nat.mod_lt _ (by omega)) (Nat.mod_lt _ (by omega)) (Nat.mod_lt _ (by omega)) (Nat.mod_lt _ (by omega)) (Nat.mod_lt _ (by omega))]
  rfl

/-- the parts of addR, one by one -/
def addP (c : Fe5) (r k : Nat) : Nat := (prt c k + ovR c r k) % 2251799813685248
theorem addR_all (c : Fe5) (r : Nat) : uptoN (addP c r) (prt c) 5 5 = [(addR c r).a0, (addR c r).a1, (addR c r).a2, (addR c r).a3, (addR c r).a4] := rfl
theorem addR_none (c : Fe5) (r : Nat) : uptoN (addP c r) (prt c) 5 0 = [c.a0, c.a1, c.a2, c.a3, c.a4] := rfl

theorem quad_plain : Try.prog.plainKey 33 = true := by kernel_rfl
theorem quadCells : Try.prog.cellsOf 33 = 1 := by kernel_rfl
theorem quad_info : ∃ i, Try.prog.info? 33 = some i := by
  have h : (Try.prog.info? 33).isSome = true := by kernel_rfl
  exact Option.isSome_iff_exists.1 h

theorem FeC_lits (c : Fe5) : feC c = #[.int .u64 (c.a0 : Int), .int .u64 (c.a1 : Int), .int .u64 (c.a2 : Int), .int .u64 (c.a3 : Int), .int .u64 (c.a4 : Int)] := rfl

set_option maxRecDepth 100000 in
set_option maxHeartbeats 4000000 in
theorem least_any (f : Fe5) (w : World) (hf : MayF f) :
    Calls Try.prog 32 #[.agg (feC f)] w fun e w' => e = .returned (.agg (feC (leastU f))) ∧ Below w.heap.size w w' := by
  have hm := carU_may hf.word
  have Hans := Lib.hid (least_eq hf)
  have hcar := fun wx => carried_any f wx hf.word
  have hs0 := sizeFe f
  have hs1 := sizeFe (carU f)
  have ho1 := one_fe (carU f)
  generalize hans : leastU f = ans at *
  generalize hfa : feC ans = fa at *
  have Hfa := Lib.hid hfa
  clear hans hfa hf
  generalize feC f = fc at *
  generalize hc : carU f = c at *
  clear hc
  go_enter Try.func32, Try.ntmps32
  go_wp2_with ((with_reducible show wpList _ _ _ (⟨some 8, _, _, _, _, _⟩ :: _) _ _); refine wpList_loadC (by rfl) 35 (.tmp 1) rfl w.heap.size rfl 35 fc _ ((RowC.new _ _ _).alloc _) Try.underlying35 rfl hs0 ?_)
  have hM0 := ((Ms.nil w).box 35 fc).box 35 #[.int .u64 0, .int .u64 0, .int .u64 0, .int .u64 0, .int .u64 0]
  simp only [World.size_alloc] at hM0
  refine (hcar _).mono ?_
  rintro e w2 ⟨rfl, hb2⟩
  have hM2 := hM0.call hb2
  clear hM0 hb2 hcar
  have hsz : fc.size = (feC c).size := by rw [hs0] at hs1; exact Option.some.inj hs1
  have hM3 : Ms w (w2.setRow w.heap.size (feC c)) [(w.heap.size + 1, 35, #[.int .u64 0, .int .u64 0, .int .u64 0, .int .u64 0, .int .u64 0]), (w.heap.size, 35, feC c)] :=
    ⟨below_setRow hM2.old (Nat.le_refl _) _, fun p hp => by
      simp only [List.mem_cons, List.not_mem_nil, or_false] at hp
      rcases hp with rfl | rfl
      · exact (hM2.get 0 rfl).rowFar (by simp) _
      · exact (hM2.get 1 rfl).row _⟩
  have hld := hM3.get 1 rfl
  go_wp2_with (first
    | ((with_reducible show wpList _ _ _ (⟨none, Op.store 35 _ _, _, _, _, _⟩ :: _) _ _); refine wpList_store_row rfl 35 (.tmp 1) (.tmp 9) rfl w.heap.size (feC c) rfl rfl 35 fc (hM2.get 1 rfl) hs1 hsz ho1 ?_)
    | ((with_reducible show wpList _ _ _ (⟨some 10, _, _, _, _, _⟩ :: _) _ _); refine wpList_loadC (by rfl) 35 (.tmp 1) rfl w.heap.size rfl 35 _ _ hld Try.underlying35 rfl hs1 ?_))
  clear hM2 hs0 hs1 ho1 hsz hld
  generalize w2.setRow w.heap.size (feC c) = w3 at *
  have hi5 := fun k (hk : k < 5) => qC_at (prt_at c hk)
  rw [feC_q] at hM3 ⊢
  rw [← addR_none c (19 * ovR c 19 5)] at hM3
  have hcq := Lib.hid (show qC [c.a0, c.a1, c.a2, c.a3, c.a4] = qC (uptoN (addP c (19 * ovR c 19 5)) (prt c) 5 0) from rfl)
  generalize qC [c.a0, c.a1, c.a2, c.a3, c.a4] = cc at *
  obtain ⟨i0, hi0⟩ := quad_info
  go_loopw [3, 11] (fun o i wr => ∃ n : Nat, n ≤ 5 ∧ i = .int .i64 (n : Int) ∧ o = .int .u64 ((ovR c 19 n : Nat) : Int) ∧ w3 = wr) (fun _ i _ => (5 - intOf i).toNat)
  case atStart => exact ⟨0, by omega, rfl, rfl, rfl⟩
  case round =>
    obtain ⟨n, hn, rfl, rfl, rfl⟩ := hrel
    by_cases hlt : n < 5
    · have hix := hi5 n hlt
      have h1 := prt_lt hm n
      have h2 := ovR_le hm (r := 19) (by omega) n
      have hw : IntKind.u64.wrap ((prt c n : Int) + (ovR c 19 n : Int)) = ((prt c n + ovR c 19 n : Nat) : Int) := wrap_nat (by omega) (by omega)
      have hs : ((ovR c 19 (n + 1) : Nat) : Int) = ((prt c n + ovR c 19 n : Nat) : Int) / 2251799813685248 := by rw [ovR]; omega
      have Hs := Lib.hid hs
      clear hs h1 h2 hi5
      generalize prt c n + ovR c 19 n = s at *
      generalize ovR c 19 n = o at *
      generalize prt c n = x at *
      have j0 : 0 ≤ (n : Int) := by omega
      have j1 : (n : Int) < 5 := by omega
      go_wp2_with ((with_reducible show wpList _ _ _ (⟨some 13, _, _, _, _, _⟩ :: _) _ _); refine wpList_index_cell rfl (some 13) rfl 35 (.tmp 10) (.tmp 11) rfl cc rfl n rfl 5 33 Try.underlying35 quad_plain i0 hi0 quadCells _ hix hlt ?_)
      exact ⟨⟨n + 1, by omega, by go_num, by rw [Hs.out], trivial⟩, by simp [intOf]; omega⟩
    · obtain rfl : n = 5 := by omega
      rw [show ((5 : Nat) : Int) = 5 from rfl]
      have hR := ovR5_le hm (r := 19) (by omega)
      have hw : IntKind.u64.wrap ((ovR c 19 5 : Int) * 19) = ((19 * ovR c 19 5 : Nat) : Int) := wrap_nat (by omega) (by omega)
      have hR2 : 19 * ovR c 19 5 ≤ 361 := by omega
      have hans := Hans.out
      clear hR Hans
      generalize 19 * ovR c 19 5 = R at *
      generalize ovR c 19 5 = o5 at *
      have hld := hM3.get 1 rfl
      have hs21 : (Try.prog.info? 35).map (·.size) = some (qC (uptoN (addP c R) (prt c) 5 0)).size := by rw [qC_size, uptoN_len]; exact infoFe
      rw [← hcq.out] at hld hs21
      go_wp2_with ((with_reducible show wpList _ _ _ (⟨some 21, _, _, _, _, _⟩ :: _) _ _); refine wpList_loadC (by rfl) 35 (.tmp 1) rfl w.heap.size rfl 35 cc _ hld Try.underlying35 rfl hs21 ?_)
      clear hld hs21 hw hcq
      go_loopw [3, 22] (fun o i wr => ∃ n : Nat, n ≤ 5 ∧ i = .int .i64 (n : Int) ∧ o = .int .u64 ((ovR c R n : Nat) : Int) ∧ Ms w wr [(w.heap.size + 1, 35, #[.int .u64 0, .int .u64 0, .int .u64 0, .int .u64 0, .int .u64 0]), (w.heap.size, 35, qC (uptoN (addP c R) (prt c) 5 n))]) (fun _ i _ => (5 - intOf i).toNat)
      case atStart => exact ⟨0, by omega, rfl, rfl, hM3⟩
      case round =>
        obtain ⟨n, hn, rfl, rfl, hM⟩ := hrel
        by_cases hlt : n < 5
        · have hix := hi5 n hlt
          have h1 := prt_lt hm n
          have h2 := ovR_le hm hR2 n
          have hw : IntKind.u64.wrap ((prt c n : Int) + (ovR c R n : Int)) = ((prt c n + ovR c R n : Nat) : Int) := wrap_nat (by omega) (by omega)
          have hk := mask51 (x := prt c n + ovR c R n) (by omega)
          have hs : ((ovR c R (n + 1) : Nat) : Int) = ((prt c n + ovR c R n : Nat) : Int) / 2251799813685248 := by rw [ovR]; omega
          have Hs := Lib.hid hs
          have hg1 := hM.get 1 rfl
          have hce := hg1.cell (qC_at (uptoN_old (addP c R) (prt c) hlt (Nat.le_refl n)))
          have hfr := hg1.frozen n
          have hset : ∀ wx, Ms w wx [(w.heap.size + 1, 35, #[.int .u64 0, .int .u64 0, .int .u64 0, .int .u64 0, .int .u64 0]), (w.heap.size, 35, qC (uptoN (addP c R) (prt c) 5 n))] →
              Ms w (wx.setCell ⟨w.heap.size, n, none⟩ (.int .u64 ((addP c R n : Nat) : Int))) [(w.heap.size + 1, 35, #[.int .u64 0, .int .u64 0, .int .u64 0, .int .u64 0, .int .u64 0]), (w.heap.size, 35, qC (uptoN (addP c R) (prt c) 5 (n + 1)))] := fun wx hx =>
            ⟨hx.old.setCell (Nat.le_refl _) _, fun p hp => by
              simp only [List.mem_cons, List.not_mem_nil, or_false] at hp
              rcases hp with rfl | rfl
              · exact (hx.get 0 rfl).far (by simp) _
              · have := (hx.get 1 rfl).setN n (addP c R n)
                rwa [← uptoN_succ] at this⟩
          have hm4 := hset _ hM
          rw [addP] at hm4
          clear hs h1 h2 hi5 hset hg1 hM hM3 hans
          generalize (prt c n + ovR c R n) % 2251799813685248 = q at *
          generalize prt c n + ovR c R n = s at *
          generalize ovR c R n = o at *
          generalize prt c n = x at *
          have j0 : 0 ≤ (n : Int) := by omega
          have j1 : (n : Int) < 5 := by omega
          go_wp2_with ((with_reducible show wpList _ _ _ (⟨some 25, _, _, _, _, _⟩ :: _) _ _); refine wpList_index_cell rfl (some 25) rfl 35 (.tmp 21) (.tmp 22) rfl cc rfl n rfl 5 33 Try.underlying35 quad_plain i0 hi0 quadCells _ hix hlt ?_)
          exact ⟨⟨n + 1, by omega, by go_num, by rw [Hs.out], hm4⟩, by simp [intOf]; omega⟩
        · obtain rfl : n = 5 := by omega
          rw [show ((5 : Nat) : Int) = 5 from rfl]
          rw [addR_all, hans, ← feC_q, Hfa.out] at hM
          have hs36 : (Try.prog.info? 35).map (·.size) = some fa.size := by rw [← Hfa.out]; exact sizeFe ans
          have ho36 : fa.all (·.oneCell') = true := by rw [← Hfa.out]; exact one_fe ans
          have hs5 : 5 = fa.size := by rw [← Hfa.out]; rfl
          clear hans hi5 hM3
          go_wp2_with (first
            | ((with_reducible show wpList _ _ _ (⟨some 36, _, _, _, _, _⟩ :: _) _ _); refine wpList_loadC (by rfl) 35 (.tmp 1) rfl w.heap.size rfl 35 fa _ (hM.get 1 rfl) Try.underlying35 rfl hs36 ?_)
            | ((with_reducible show wpList _ _ _ (⟨none, Op.store 35 _ _, _, _, _, _⟩ :: _) _ _); refine wpList_store_row rfl 35 (.tmp 2) (.tmp 36) rfl (w.heap.size + 1) fa rfl rfl 35 _ (hM.get 0 rfl) hs36 hs5 ho36 ?_))
          exact bodyPost_ret (results_cell_one rfl _ _ (w.heap.size + 1) 35 fa _ rfl ((hM.get 0 rfl).row fa) Try.underlying35 rfl hs36) rfl ⟨rfl, below_setRow hM.old (by omega) _⟩

/-- the ten parts lie in two blocks -/
def PartsAt2 (bx b : Nat) (x0 x1 x2 x3 x4 y0 y1 y2 y3 y4 : Nat) (wx : World) : Prop :=
  wx.cell? ⟨bx, 0, none⟩ = some (.int .u64 (x0 : Int)) ∧ wx.cell? ⟨bx, 1, none⟩ = some (.int .u64 (x1 : Int)) ∧ wx.cell? ⟨bx, 2, none⟩ = some (.int .u64 (x2 : Int)) ∧ wx.cell? ⟨bx, 3, none⟩ = some (.int .u64 (x3 : Int)) ∧ wx.cell? ⟨bx, 4, none⟩ = some (.int .u64 (x4 : Int)) ∧
  wx.cell? ⟨b, 0, none⟩ = some (.int .u64 (y0 : Int)) ∧ wx.cell? ⟨b, 1, none⟩ = some (.int .u64 (y1 : Int)) ∧ wx.cell? ⟨b, 2, none⟩ = some (.int .u64 (y2 : Int)) ∧ wx.cell? ⟨b, 3, none⟩ = some (.int .u64 (y3 : Int)) ∧ wx.cell? ⟨b, 4, none⟩ = some (.int .u64 (y4 : Int))
/-- may both be, and do they stand for the same -/
def sameU (a b : Fe5) : Bool := mayB a && mayB b && (valF a % P25 == valF b % P25)

theorem qv_inj (x y : Nat) (h : (x : Int) = (y : Int)) : x = y := by omega
theorem eql_fe (w : World) (a b : Fe5) : (Op.equalIn 10000 35 (.agg (feC a)) (.agg (feC b))).run Try.prog w = .ok ([a.a0, a.a1, a.a2, a.a3, a.a4] == [b.a0, b.a1, b.a2, b.a3, b.a4]) w := by
  obtain ⟨i, hi⟩ := quad_info
  rw [feC_q, feC_q]
  exact run_eqlRow w false Try.underlying35 Try.underlying33 hi quadCells qv (fun x => (x : Int)) (fun _ => rfl) qv_inj 0 _ _ rfl rfl
theorem eql_least (a b : Fe5) : ([(leastU a).a0, (leastU a).a1, (leastU a).a2, (leastU a).a3, (leastU a).a4] == [(leastU b).a0, (leastU b).a1, (leastU b).a2, (leastU b).a3, (leastU b).a4]) = (valF a % P25 == valF b % P25) := by
  rw [Bool.eq_iff_iff, beq_iff_eq, beq_iff_eq, ← leastU_eq]
  constructor
  · intro h
    simp only [List.cons.injEq, and_true] at h
    obtain ⟨h0, h1, h2, h3, h4⟩ := h
    cases hx : leastU a
    cases hy : leastU b
    simp_all
  · intro h
    rw [h]


end Go.Proofs.Ytimgnpcojamafaa
