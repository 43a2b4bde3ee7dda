import Derived.Test.YtgjeamapgdakcaaDoorG46
import Derived.Test.YtgjeamapgdakcaaDoorG37
import Derived.Test.YtgjeamapgdakcaaDoorG39
/-
  THE WALK of DrawParts (coterielaw09), over what the program's calls answer.
-/
set_option linter.unusedVariables false
namespace Go.Proofs.YtgjeamapgdakcaaDoor
open Go.RowKit

section
variable {P : Program} (w : World)
theorem run_append_rows (base : Nat) (t ty e : TypeId) (i : TypeInfo) (z : Value) (size bytes : Nat) (ht : P.underlying t = some (.slice e)) (hi : P.info? e = some i) (hz : i.zero = some z)
    (hsize : i.size = size) (hby : i.bytes = bytes) (hzs : z.cells.size = size) (hsz : 0 < size)
    (v : Value) (n : Nat) (xs : List Value) (hown : w.ownsRow base e size v n xs)
    (A : Option Addr) (m c : Nat) (news : List Value) (hl : news.length = m * size) (hr : (A = none ∧ m = 0) ∨ ∃ ad, A = some ad ∧ ∀ j u, news[j]? = some u → w.cell? (ad.add j) = some u) (h1 : ∀ u ∈ news, u.oneCell' = true)
    (h63 : n + m ≤ maxLen) (hbytes : (n + m) * bytes ≤ 140737488355328) (hbase : base ≤ w.heap.size) :
    ∃ v' w', (Builtin.append_ #[t, t] ty #[v, .slice A m c]).run P w = .ok v' w' ∧ w'.ownsRow base e size v' (n + m) (xs ++ news) ∧ w.grownBy w' v.ownBlock := by
  rcases hr with ⟨rfl, rfl⟩ | ⟨ad, rfl, hcells⟩
  · have hn : news = [] := List.eq_nil_of_length_eq_zero (by simpa using hl)
    subst hn
    refine ⟨v, w, ?_, by simpa using hown, World.grownBy.refl w _⟩
    rcases hown.2 with ⟨rfl, rfl⟩ | ⟨g, cap, cur, rfl, _, _, hnc, _⟩
    · simp [Builtin.append_, run_underlying ht, sizeOf, typeInfo, hi, Builtin.lenOf, Builtin.firstCells]
    · simp [Builtin.append_, run_underlying ht, sizeOf, typeInfo, hi, Builtin.lenOf, Builtin.firstCells, hnc, storeCells]
  · obtain ⟨v', w', hrun, h2, h3, _, _⟩ := run_append_own_at (P := P) w base t ty e i z size bytes ht hi hz hsize hby hzs hsz v n xs hown ad m c news hl hcells h1 h63 hbytes hbase
    exact ⟨v', w', hrun, h2, h3⟩
theorem wpList_append_rows {ops : Array Oper} {rest : List Oper} {o : Oper} {a : Act} {Q : Exit → Act → World → Prop} (hgd : Region.wanted o (yielded ops a.tmps) = true) (s x : Operand) (t : TypeId)
    (ho : o.op = .call { callee := .builtin .append, args := #[s, x], argTypes := #[t, t] })
    (base : Nat) (e : TypeId) (i : TypeInfo) (z : Value) (size bytes : Nat) (ht : P.underlying t = some (.slice e)) (hi : P.info? e = some i) (hz : i.zero = some z)
    (hsize : i.size = size) (hby : i.bytes = bytes) (hzs : z.cells.size = size) (hsz : 0 < size)
    (v : Value) (n : Nat) (xs : List Value) (hs : a.eval s = v) (hown : w.ownsRow base e size v n xs)
    (A : Option Addr) (m c : Nat) (news : List Value) (hx : a.eval x = .slice A m c) (hl : news.length = m * size) (hr : (A = none ∧ m = 0) ∨ ∃ ad, A = some ad ∧ ∀ j u, news[j]? = some u → w.cell? (ad.add j) = some u) (h1 : ∀ u ∈ news, u.oneCell' = true)
    (h63 : n + m ≤ maxLen) (hbytes : (n + m) * bytes ≤ 140737488355328) (hbase : base ≤ w.heap.size)
    (h : ∀ v' w', w'.ownsRow base e size v' (n + m) (xs ++ news) → w.grownBy w' v.ownBlock → wpList P ops Q rest (a.put o.dst v') w') : wpList P ops Q (o :: rest) a w := by
  refine wpList_step fun _ hK => ?_
  rw [if_pos hgd]
  obtain ⟨v', w', hrun, h2, h3⟩ := run_append_rows (P := P) w base t o.type e i z size bytes ht hi hz hsize hby hzs hsz v n xs hown A m c news hl hr h1 h63 hbytes hbase
  unfold Oper.wp execOp
  simp only [ho, resolve, invoke, builtin, Sem.run_bind, Sem.run_pure, Result.andThen_ok, List.map_toArray, List.map_cons, List.map_nil, hs, hx, hrun]
  exact hK _ _ (h v' w' h2 h3)
end
theorem KeysAt.src {w : World} {A : Option Addr} {n : Nat} {xs : List UInt8} (h : KeysAt w A n xs) : (A = none ∧ n = 0) ∨ ∃ ad, A = some ad ∧ ∀ j u, (xs.map bv)[j]? = some u → w.cell? (ad.add j) = some u := by
  rcases Nat.eq_zero_or_pos n with h0 | h0
  · have hx : xs = [] := List.eq_nil_of_length_eq_zero (by rw [h.1, h0])
    subst hx
    rcases A with _ | ad
    · exact .inl ⟨rfl, h0⟩
    · exact .inr ⟨ad, rfl, fun j u hu => by simp at hu⟩
  · obtain ⟨b, h1, _, h3⟩ := h.2 h0
    refine .inr ⟨_, h1, fun j u hu => ?_⟩
    rw [Addr.add_lit]
    exact h3 j u hu
theorem KeysAt.grown {w w' : World} {A : Option Addr} {n : Nat} {xs : List UInt8} {row : Option Nat} (h : KeysAt w A n xs) (hg : w.grownBy w' row) (hne : ∀ b, A = some ⟨b, 0, none⟩ → ∀ k, row = some k → b ≠ k) : KeysAt w' A n xs :=
  ⟨h.1, fun hn => by
    obtain ⟨b, h1, h2, h3⟩ := h.2 hn
    refine ⟨b, h1, Nat.lt_of_lt_of_le h2 hg.size, fun j u hu => ?_⟩
    have e := hg.block b h2 (fun e => hne b h1 b e.symm rfl)
    rw [← h3 j u hu]
    exact World.cell?_of_block (a := ⟨b, 0 + j, none⟩) e⟩
theorem errM_small {N : Nat} {n : Nat} (hN : N ≤ 4294967296) (hn : n ≤ 1000) : errM N (n : Int) = if 4294967296 < N + n then 8 else 0 := by
  rw [errM, if_neg (by omega)]
  split <;> split <;> omega

theorem ManyPostD.form {w w' : World} {s : List UInt8} {N n : Nat} {e : Ending} (h : ManyPostD w s N (n : Int) e w') (hs : s.length = 32) (hN : N ≤ 4294967296) (hn : n ≤ 1000) :
    ∃ (A : Option Addr) (m c : Nat) (y : List UInt8) (M : Nat) (er : Int), e = .returned (.tuple #[.slice A m c, .agg (drC y M), .int .i64 er]) ∧ y.length = 32 ∧ Below w.heap.size w w' ∧
      ((er = 8 ∧ 4294967296 < N + n) ∨ (er = 0 ∧ N + n ≤ 4294967296 ∧ y = s ∧ M = N + n ∧ m = n ∧ w'.ownsRow w.heap.size 24 32 (.slice A n c) n ((keysU s N n).map bv))) := by
  obtain ⟨hb, ⟨h1, rfl⟩ | ⟨h1, v, rfl, ho⟩⟩ := h
  · rw [errM_small hN hn] at h1 ⊢
    by_cases hc : 4294967296 < N + n
    · rw [if_pos hc]
      exact ⟨none, 0, 0, zeroD, 0, 8, rfl, rfl, hb, .inl ⟨rfl, hc⟩⟩
    · rw [if_neg hc] at h1
      exact absurd rfl h1
  · rw [errM_small hN hn] at h1
    by_cases hc : 4294967296 < N + n
    · rw [if_pos hc] at h1
      exact absurd h1 (by decide)
    · rw [show ((n : Int)).toNat = n from rfl] at ho ⊢
      obtain ⟨A, c, rfl⟩ := own_sl ho
      exact ⟨A, n, c, s, N + n, 0, rfl, hs, hb, .inr ⟨rfl, by omega, rfl, rfl, rfl, ho⟩⟩

set_option maxRecDepth 100000 in
set_option maxHeartbeats 8000000 in
theorem walkH_DrawParts (hN : HPN) (hX : HPX) (hM : HPM) (s : List UInt8) (N : Nat) (a b : UInt8) (w : World) (hs : s.length = 32) (hb : N < 18446744073709551616) (hT : CTab w) :
    Calls Tryd.prog 4 #[.agg (drC s N), .int .u8 (a.toNat : Int), .int .u8 (b.toNat : Int)] w fun e w' => e = .returned (.bool true) ∧ Below w.heap.size w w' := by
  have hM0 := (Ms.nil w).box 27 (drC s N)
  have Hs := Lib.hid hs
  have Hsd := Lib.hid (sizeDr N hs)
  have Hsz := Lib.hid (sizeDr (s := zeroD) 0 rfl)
  have Hoz := Lib.hid (one_dr zeroD 0)
  rw [drZ] at Hsz Hoz
  obtain ⟨i, hi⟩ : ∃ i, i = a.toNat % 30 := ⟨_, rfl⟩
  obtain ⟨k, hk⟩ : ∃ k, k = b.toNat % 30 := ⟨_, rfl⟩
  have qa : (a.toNat : Int) % 30 = (i : Int) := by omega
  have qb : (b.toNat : Int) % 30 = (k : Int) := by omega
  have ta : (a.toNat : Int).tmod 30 = (i : Int) := by rw [Int.tmod_eq_emod_of_nonneg (by omega)]; omega
  have tb : (b.toNat : Int).tmod 30 = (k : Int) := by rw [Int.tmod_eq_emod_of_nonneg (by omega)]; omega
  have hi30 : i < 30 := by omega
  have hk30 : k < 30 := by omega
  have wi : IntKind.i64.wrap (i : Int) = (i : Int) := by rw [IntKind.wrap_i64]; omega
  have wk : IntKind.i64.wrap (k : Int) = (k : Int) := by rw [IntKind.wrap_i64]; omega
  have vi : IntKind.u8.wrap (i : Int) = (i : Int) := by rw [IntKind.wrap_u8]; omega
  have vk : IntKind.u8.wrap (k : Int) = (k : Int) := by rw [IntKind.wrap_u8]; omega
  obtain ⟨l, hl⟩ : ∃ l, l = i + k := ⟨_, rfl⟩
  have el : (i : Int) + (k : Int) = (l : Int) := by omega
  have wl : IntKind.i64.wrap (l : Int) = (l : Int) := by rw [IntKind.wrap_i64]; omega
  have Hl := Lib.hid hl
  clear hi hk hl qa qb
  go_enter Tryd.func4, Tryd.ntmps4
  go_wp2_with fail
  refine (live09 hN hX _ (hT.below hM0.old)).mono ?_
  rintro e w1 ⟨rfl, hb1⟩
  have hM1 := hM0.call hb1
  clear hM0 hb1
  go_wp2_with ((with_reducible show wpList _ _ _ (⟨some 29, _, _, _, _, _⟩ :: _) _ _); refine wpList_loadC (by kernel_rfl) 27 (.tmp 3) rfl (w.heap.size) rfl 27 (drC s N) _ (hM1.get 0 rfl) Tryd.underlying27 rfl Hsd.out ?_)
  refine (hM s N (l : Int) w1 Hs.out hb (by omega) (by omega) (hT.below hM1.old)).mono ?_
  intro e w2 hP2
  by_cases h1 : 4294967296 < N
  · have He : ∀ n : Int, errM N n = 1 := fun n => by rw [errM, if_pos (.inl h1)]
    have f2 : e = .returned (.tuple #[.slice none 0 0, .agg #[.int .u8 0, .int .u8 0, .int .u8 0, .int .u8 0, .int .u8 0, .int .u8 0, .int .u8 0, .int .u8 0, .int .u8 0, .int .u8 0, .int .u8 0, .int .u8 0, .int .u8 0, .int .u8 0, .int .u8 0, .int .u8 0, .int .u8 0, .int .u8 0, .int .u8 0, .int .u8 0, .int .u8 0, .int .u8 0, .int .u8 0, .int .u8 0, .int .u8 0, .int .u8 0, .int .u8 0, .int .u8 0, .int .u8 0, .int .u8 0, .int .u8 0, .int .u8 0, .int .u64 0], .int .i64 1]) ∧ Below w1.heap.size w1 w2 := by
      obtain ⟨hb2, ⟨_, h⟩ | ⟨h, _⟩⟩ := hP2
      · rw [He, drZ] at h
        exact ⟨h, hb2⟩
      · rw [He] at h
        exact absurd h (by decide)
    obtain ⟨rfl, hb2⟩ := f2
    have hM2 := (hM1.call hb2).put 27 #[.int .u8 0, .int .u8 0, .int .u8 0, .int .u8 0, .int .u8 0, .int .u8 0, .int .u8 0, .int .u8 0, .int .u8 0, .int .u8 0, .int .u8 0, .int .u8 0, .int .u8 0, .int .u8 0, .int .u8 0, .int .u8 0, .int .u8 0, .int .u8 0, .int .u8 0, .int .u8 0, .int .u8 0, .int .u8 0, .int .u8 0, .int .u8 0, .int .u8 0, .int .u8 0, .int .u8 0, .int .u8 0, .int .u8 0, .int .u8 0, .int .u8 0, .int .u8 0, .int .u64 0] #[.int .u8 0, .int .u8 0, .int .u8 0, .int .u8 0, .int .u8 0, .int .u8 0, .int .u8 0, .int .u8 0, .int .u8 0, .int .u8 0, .int .u8 0, .int .u8 0, .int .u8 0, .int .u8 0, .int .u8 0, .int .u8 0, .int .u8 0, .int .u8 0, .int .u8 0, .int .u8 0, .int .u8 0, .int .u8 0, .int .u8 0, .int .u8 0, .int .u8 0, .int .u8 0, .int .u8 0, .int .u8 0, .int .u8 0, .int .u8 0, .int .u8 0, .int .u8 0, .int .u64 0]
    clear hP2 hM1 hb2
    go_wp2_with (first
      | ((with_reducible show wpList _ _ _ (⟨none, Op.store 27 _ _, _, _, _, _⟩ :: _) _ _); refine wpList_store_row rfl 27 (.tmp 11) (.tmp 35) rfl (w2.heap.size) #[.int .u8 0, .int .u8 0, .int .u8 0, .int .u8 0, .int .u8 0, .int .u8 0, .int .u8 0, .int .u8 0, .int .u8 0, .int .u8 0, .int .u8 0, .int .u8 0, .int .u8 0, .int .u8 0, .int .u8 0, .int .u8 0, .int .u8 0, .int .u8 0, .int .u8 0, .int .u8 0, .int .u8 0, .int .u8 0, .int .u8 0, .int .u8 0, .int .u8 0, .int .u8 0, .int .u8 0, .int .u8 0, .int .u8 0, .int .u8 0, .int .u8 0, .int .u8 0, .int .u64 0] rfl rfl 27 _ (RowC.new _ _ _) Hsz.out rfl Hoz.out ?_)
      | ((with_reducible show wpList _ _ _ (⟨some 38, _, _, _, _, _⟩ :: _) _ _); refine wpList_loadC (by kernel_rfl) 27 (.tmp 3) rfl (w.heap.size) rfl 27 (drC s N) _ (hM2.get 1 rfl) Tryd.underlying27 rfl Hsd.out ?_))
    refine (hM s N (i : Int) _ Hs.out hb (by omega) (by omega) (hT.below hM2.old)).mono ?_
    intro e w3 hP3
    have f3 : e = .returned (.tuple #[.slice none 0 0, .agg #[.int .u8 0, .int .u8 0, .int .u8 0, .int .u8 0, .int .u8 0, .int .u8 0, .int .u8 0, .int .u8 0, .int .u8 0, .int .u8 0, .int .u8 0, .int .u8 0, .int .u8 0, .int .u8 0, .int .u8 0, .int .u8 0, .int .u8 0, .int .u8 0, .int .u8 0, .int .u8 0, .int .u8 0, .int .u8 0, .int .u8 0, .int .u8 0, .int .u8 0, .int .u8 0, .int .u8 0, .int .u8 0, .int .u8 0, .int .u8 0, .int .u8 0, .int .u8 0, .int .u64 0], .int .i64 1]) ∧ Below ((w2.alloc (.cells #[.int .u8 0, .int .u8 0, .int .u8 0, .int .u8 0, .int .u8 0, .int .u8 0, .int .u8 0, .int .u8 0, .int .u8 0, .int .u8 0, .int .u8 0, .int .u8 0, .int .u8 0, .int .u8 0, .int .u8 0, .int .u8 0, .int .u8 0, .int .u8 0, .int .u8 0, .int .u8 0, .int .u8 0, .int .u8 0, .int .u8 0, .int .u8 0, .int .u8 0, .int .u8 0, .int .u8 0, .int .u8 0, .int .u8 0, .int .u8 0, .int .u8 0, .int .u8 0, .int .u64 0] 27)).setRow w2.heap.size #[.int .u8 0, .int .u8 0, .int .u8 0, .int .u8 0, .int .u8 0, .int .u8 0, .int .u8 0, .int .u8 0, .int .u8 0, .int .u8 0, .int .u8 0, .int .u8 0, .int .u8 0, .int .u8 0, .int .u8 0, .int .u8 0, .int .u8 0, .int .u8 0, .int .u8 0, .int .u8 0, .int .u8 0, .int .u8 0, .int .u8 0, .int .u8 0, .int .u8 0, .int .u8 0, .int .u8 0, .int .u8 0, .int .u8 0, .int .u8 0, .int .u8 0, .int .u8 0, .int .u64 0]).heap.size ((w2.alloc (.cells #[.int .u8 0, .int .u8 0, .int .u8 0, .int .u8 0, .int .u8 0, .int .u8 0, .int .u8 0, .int .u8 0, .int .u8 0, .int .u8 0, .int .u8 0, .int .u8 0, .int .u8 0, .int .u8 0, .int .u8 0, .int .u8 0, .int .u8 0, .int .u8 0, .int .u8 0, .int .u8 0, .int .u8 0, .int .u8 0, .int .u8 0, .int .u8 0, .int .u8 0, .int .u8 0, .int .u8 0, .int .u8 0, .int .u8 0, .int .u8 0, .int .u8 0, .int .u8 0, .int .u64 0] 27)).setRow w2.heap.size #[.int .u8 0, .int .u8 0, .int .u8 0, .int .u8 0, .int .u8 0, .int .u8 0, .int .u8 0, .int .u8 0, .int .u8 0, .int .u8 0, .int .u8 0, .int .u8 0, .int .u8 0, .int .u8 0, .int .u8 0, .int .u8 0, .int .u8 0, .int .u8 0, .int .u8 0, .int .u8 0, .int .u8 0, .int .u8 0, .int .u8 0, .int .u8 0, .int .u8 0, .int .u8 0, .int .u8 0, .int .u8 0, .int .u8 0, .int .u8 0, .int .u8 0, .int .u8 0, .int .u64 0]) w3 := by
      obtain ⟨hb3, ⟨_, h⟩ | ⟨h, _⟩⟩ := hP3
      · rw [He, drZ] at h
        exact ⟨h, hb3⟩
      · rw [He] at h
        exact absurd h (by decide)
    obtain ⟨rfl, hb3⟩ := f3
    have hM3 := (hM2.call hb3).put 27 #[.int .u8 0, .int .u8 0, .int .u8 0, .int .u8 0, .int .u8 0, .int .u8 0, .int .u8 0, .int .u8 0, .int .u8 0, .int .u8 0, .int .u8 0, .int .u8 0, .int .u8 0, .int .u8 0, .int .u8 0, .int .u8 0, .int .u8 0, .int .u8 0, .int .u8 0, .int .u8 0, .int .u8 0, .int .u8 0, .int .u8 0, .int .u8 0, .int .u8 0, .int .u8 0, .int .u8 0, .int .u8 0, .int .u8 0, .int .u8 0, .int .u8 0, .int .u8 0, .int .u64 0] #[.int .u8 0, .int .u8 0, .int .u8 0, .int .u8 0, .int .u8 0, .int .u8 0, .int .u8 0, .int .u8 0, .int .u8 0, .int .u8 0, .int .u8 0, .int .u8 0, .int .u8 0, .int .u8 0, .int .u8 0, .int .u8 0, .int .u8 0, .int .u8 0, .int .u8 0, .int .u8 0, .int .u8 0, .int .u8 0, .int .u8 0, .int .u8 0, .int .u8 0, .int .u8 0, .int .u8 0, .int .u8 0, .int .u8 0, .int .u8 0, .int .u8 0, .int .u8 0, .int .u64 0]
    clear hP3 hM2 hb3 He h1
    go_wp2_with ((with_reducible show wpList _ _ _ (⟨none, Op.store 27 _ _, _, _, _, _⟩ :: _) _ _); refine wpList_store_row rfl 27 (.tmp 14) (.tmp 42) rfl (w3.heap.size) #[.int .u8 0, .int .u8 0, .int .u8 0, .int .u8 0, .int .u8 0, .int .u8 0, .int .u8 0, .int .u8 0, .int .u8 0, .int .u8 0, .int .u8 0, .int .u8 0, .int .u8 0, .int .u8 0, .int .u8 0, .int .u8 0, .int .u8 0, .int .u8 0, .int .u8 0, .int .u8 0, .int .u8 0, .int .u8 0, .int .u8 0, .int .u8 0, .int .u8 0, .int .u8 0, .int .u8 0, .int .u8 0, .int .u8 0, .int .u8 0, .int .u8 0, .int .u8 0, .int .u64 0] rfl rfl 27 _ (RowC.new _ _ _) Hsz.out rfl Hoz.out ?_)
    go_ret
    exact ⟨rfl, hM3.old⟩
  have hN0 : N ≤ 4294967296 := by omega
  obtain ⟨A2, m2, c2, y2, M2, er2, rfl, hy2, hb2, H2⟩ := hP2.form Hs.out hN0 (by have := Hl.out; omega)
  have H2 := Lib.hid H2
  have Hs2 := Lib.hid (sizeDr M2 hy2)
  have Ho2 := Lib.hid (one_dr y2 M2)
  have Hz2 := Lib.hid (show (#[.int .u8 0, .int .u8 0, .int .u8 0, .int .u8 0, .int .u8 0, .int .u8 0, .int .u8 0, .int .u8 0, .int .u8 0, .int .u8 0, .int .u8 0, .int .u8 0, .int .u8 0, .int .u8 0, .int .u8 0, .int .u8 0, .int .u8 0, .int .u8 0, .int .u8 0, .int .u8 0, .int .u8 0, .int .u8 0, .int .u8 0, .int .u8 0, .int .u8 0, .int .u8 0, .int .u8 0, .int .u8 0, .int .u8 0, .int .u8 0, .int .u8 0, .int .u8 0, .int .u64 0] : Array Value).size = (drC y2 M2).size by rw [drC_size M2 hy2]; rfl)
  have hbase2 := hM1.old.size
  have hgr2 := hb2.size
  have hM2 := (hM1.call hb2).put 27 #[.int .u8 0, .int .u8 0, .int .u8 0, .int .u8 0, .int .u8 0, .int .u8 0, .int .u8 0, .int .u8 0, .int .u8 0, .int .u8 0, .int .u8 0, .int .u8 0, .int .u8 0, .int .u8 0, .int .u8 0, .int .u8 0, .int .u8 0, .int .u8 0, .int .u8 0, .int .u8 0, .int .u8 0, .int .u8 0, .int .u8 0, .int .u8 0, .int .u8 0, .int .u8 0, .int .u8 0, .int .u8 0, .int .u8 0, .int .u8 0, .int .u8 0, .int .u8 0, .int .u64 0] (drC y2 M2)
  have hbW2 : Below w2.heap.size w2 ((w2.alloc (.cells #[.int .u8 0, .int .u8 0, .int .u8 0, .int .u8 0, .int .u8 0, .int .u8 0, .int .u8 0, .int .u8 0, .int .u8 0, .int .u8 0, .int .u8 0, .int .u8 0, .int .u8 0, .int .u8 0, .int .u8 0, .int .u8 0, .int .u8 0, .int .u8 0, .int .u8 0, .int .u8 0, .int .u8 0, .int .u8 0, .int .u8 0, .int .u8 0, .int .u8 0, .int .u8 0, .int .u8 0, .int .u8 0, .int .u8 0, .int .u8 0, .int .u8 0, .int .u8 0, .int .u64 0] 27)).setRow w2.heap.size (drC y2 M2)) := below_setRow (d_al _ _) (Nat.le_refl _) _
  clear hP2 hM1 hb2 h1
  go_wp2_with (first
    | ((with_reducible show wpList _ _ _ (⟨none, Op.store 27 _ _, _, _, _, _⟩ :: _) _ _); refine wpList_store_row rfl 27 (.tmp 11) (.tmp 35) rfl (w2.heap.size) (drC y2 M2) rfl rfl 27 _ (RowC.new _ _ _) Hs2.out Hz2.out Ho2.out ?_)
    | ((with_reducible show wpList _ _ _ (⟨some 38, _, _, _, _, _⟩ :: _) _ _); refine wpList_loadC (by kernel_rfl) 27 (.tmp 3) rfl (w.heap.size) rfl 27 (drC s N) _ (hM2.get 1 rfl) Tryd.underlying27 rfl Hsd.out ?_))
  generalize hW2 : (w2.alloc (.cells #[.int .u8 0, .int .u8 0, .int .u8 0, .int .u8 0, .int .u8 0, .int .u8 0, .int .u8 0, .int .u8 0, .int .u8 0, .int .u8 0, .int .u8 0, .int .u8 0, .int .u8 0, .int .u8 0, .int .u8 0, .int .u8 0, .int .u8 0, .int .u8 0, .int .u8 0, .int .u8 0, .int .u8 0, .int .u8 0, .int .u8 0, .int .u8 0, .int .u8 0, .int .u8 0, .int .u8 0, .int .u8 0, .int .u8 0, .int .u8 0, .int .u8 0, .int .u8 0, .int .u64 0] 27)).setRow w2.heap.size (drC y2 M2) = x2 at *
  have hx2s : x2.heap.size = w2.heap.size + 1 := by rw [← hW2]; simp
  clear hW2
  refine (hM s N (i : Int) x2 Hs.out hb (by omega) (by omega) (hT.below hM2.old)).mono ?_
  intro e w3 hP3
  obtain ⟨A3, m3, c3, y3, M3, er3, rfl, hy3, hb3, H3⟩ := hP3.form Hs.out hN0 (by omega)
  have Hs3 := Lib.hid (sizeDr M3 hy3)
  have Ho3 := Lib.hid (one_dr y3 M3)
  have Hz3 := Lib.hid (show (#[.int .u8 0, .int .u8 0, .int .u8 0, .int .u8 0, .int .u8 0, .int .u8 0, .int .u8 0, .int .u8 0, .int .u8 0, .int .u8 0, .int .u8 0, .int .u8 0, .int .u8 0, .int .u8 0, .int .u8 0, .int .u8 0, .int .u8 0, .int .u8 0, .int .u8 0, .int .u8 0, .int .u8 0, .int .u8 0, .int .u8 0, .int .u8 0, .int .u8 0, .int .u8 0, .int .u8 0, .int .u8 0, .int .u8 0, .int .u8 0, .int .u8 0, .int .u8 0, .int .u64 0] : Array Value).size = (drC y3 M3).size by rw [drC_size M3 hy3]; rfl)
  have hgr3 := hb3.size
  have hM3 := (hM2.call hb3).put 27 #[.int .u8 0, .int .u8 0, .int .u8 0, .int .u8 0, .int .u8 0, .int .u8 0, .int .u8 0, .int .u8 0, .int .u8 0, .int .u8 0, .int .u8 0, .int .u8 0, .int .u8 0, .int .u8 0, .int .u8 0, .int .u8 0, .int .u8 0, .int .u8 0, .int .u8 0, .int .u8 0, .int .u8 0, .int .u8 0, .int .u8 0, .int .u8 0, .int .u8 0, .int .u8 0, .int .u8 0, .int .u8 0, .int .u8 0, .int .u8 0, .int .u8 0, .int .u8 0, .int .u64 0] (drC y3 M3)
  have hbW3 : Below w3.heap.size w3 ((w3.alloc (.cells #[.int .u8 0, .int .u8 0, .int .u8 0, .int .u8 0, .int .u8 0, .int .u8 0, .int .u8 0, .int .u8 0, .int .u8 0, .int .u8 0, .int .u8 0, .int .u8 0, .int .u8 0, .int .u8 0, .int .u8 0, .int .u8 0, .int .u8 0, .int .u8 0, .int .u8 0, .int .u8 0, .int .u8 0, .int .u8 0, .int .u8 0, .int .u8 0, .int .u8 0, .int .u8 0, .int .u8 0, .int .u8 0, .int .u8 0, .int .u8 0, .int .u8 0, .int .u8 0, .int .u64 0] 27)).setRow w3.heap.size (drC y3 M3)) := below_setRow (d_al _ _) (Nat.le_refl _) _
  clear hP3 hM2
  rcases H3 with ⟨rfl, h3⟩ | ⟨rfl, h3, rfl, rfl, rfl, hown3⟩
  · have he2 : er2 = 8 := by
      rcases H2.out with ⟨h, _⟩ | ⟨_, h, _⟩
      · exact h
      · have := Hl.out
        omega
    subst he2
    clear h3
    go_wp2_with ((with_reducible show wpList _ _ _ (⟨none, Op.store 27 _ _, _, _, _, _⟩ :: _) _ _); refine wpList_store_row rfl 27 (.tmp 14) (.tmp 42) rfl (w3.heap.size) _ rfl rfl 27 _ (RowC.new _ _ _) Hs3.out Hz3.out Ho3.out ?_)
    go_ret
    exact ⟨rfl, hM3.old⟩
  go_wp2_with (first
    | ((with_reducible show wpList _ _ _ (⟨none, Op.store 27 _ _, _, _, _, _⟩ :: _) _ _); refine wpList_store_row rfl 27 (.tmp 14) (.tmp 42) rfl (w3.heap.size) _ rfl rfl 27 _ (RowC.new _ _ _) Hs3.out Hz3.out Ho3.out ?_)
    | ((with_reducible show wpList _ _ _ (⟨some 53, _, _, _, _, _⟩ :: _) _ _); refine wpList_loadC (by kernel_rfl) 27 (.tmp 14) rfl (w3.heap.size) rfl 27 (drC y3 (N + m3)) _ (hM3.get 0 rfl) Tryd.underlying27 rfl Hs3.out ?_))
  generalize hW3 : (w3.alloc (.cells #[.int .u8 0, .int .u8 0, .int .u8 0, .int .u8 0, .int .u8 0, .int .u8 0, .int .u8 0, .int .u8 0, .int .u8 0, .int .u8 0, .int .u8 0, .int .u8 0, .int .u8 0, .int .u8 0, .int .u8 0, .int .u8 0, .int .u8 0, .int .u8 0, .int .u8 0, .int .u8 0, .int .u8 0, .int .u8 0, .int .u8 0, .int .u8 0, .int .u8 0, .int .u8 0, .int .u8 0, .int .u8 0, .int .u8 0, .int .u8 0, .int .u8 0, .int .u8 0, .int .u64 0] 27)).setRow w3.heap.size (drC y3 (N + m3)) = x3 at *
  have hx3s : x3.heap.size = w3.heap.size + 1 := by rw [← hW3]; simp
  clear hW3
  refine (hM y3 (N + m3) (k : Int) x3 Hs.out (by omega) (by omega) (by omega) (hT.below hM3.old)).mono ?_
  intro e w5 hP5
  obtain ⟨A5, m5, c5, y5, M5, er5, rfl, hy5, hb5, H5⟩ := hP5.form Hs.out h3 (by omega)
  have Hs5 := Lib.hid (sizeDr M5 hy5)
  have Ho5 := Lib.hid (one_dr y5 M5)
  have Hz5 := Lib.hid (show (#[.int .u8 0, .int .u8 0, .int .u8 0, .int .u8 0, .int .u8 0, .int .u8 0, .int .u8 0, .int .u8 0, .int .u8 0, .int .u8 0, .int .u8 0, .int .u8 0, .int .u8 0, .int .u8 0, .int .u8 0, .int .u8 0, .int .u8 0, .int .u8 0, .int .u8 0, .int .u8 0, .int .u8 0, .int .u8 0, .int .u8 0, .int .u8 0, .int .u8 0, .int .u8 0, .int .u8 0, .int .u8 0, .int .u8 0, .int .u8 0, .int .u8 0, .int .u8 0, .int .u64 0] : Array Value).size = (drC y5 M5).size by rw [drC_size M5 hy5]; rfl)
  have hgr5 := hb5.size
  have hM5 := (hM3.call hb5).put 27 #[.int .u8 0, .int .u8 0, .int .u8 0, .int .u8 0, .int .u8 0, .int .u8 0, .int .u8 0, .int .u8 0, .int .u8 0, .int .u8 0, .int .u8 0, .int .u8 0, .int .u8 0, .int .u8 0, .int .u8 0, .int .u8 0, .int .u8 0, .int .u8 0, .int .u8 0, .int .u8 0, .int .u8 0, .int .u8 0, .int .u8 0, .int .u8 0, .int .u8 0, .int .u8 0, .int .u8 0, .int .u8 0, .int .u8 0, .int .u8 0, .int .u8 0, .int .u8 0, .int .u64 0] (drC y5 M5)
  clear hP5 hM3
  rcases H2.out with ⟨rfl, h2⟩ | ⟨rfl, h2, rfl, rfl, rfl, hown2⟩
  · have he5 : er5 = 8 := by
      rcases H5 with ⟨h, _⟩ | ⟨_, h, _⟩
      · exact h
      · have := Hl.out
        omega
    subst he5
    clear h2 H5 h3
    go_wp2_with ((with_reducible show wpList _ _ _ (⟨none, Op.store 27 _ _, _, _, _, _⟩ :: _) _ _); refine wpList_store_row rfl 27 (.tmp 17) (.tmp 57) rfl (w5.heap.size) _ rfl rfl 27 _ (RowC.new _ _ _) Hs5.out Hz5.out Ho5.out ?_)
    go_ret
    exact ⟨rfl, hM5.old⟩
  rcases H5 with ⟨rfl, h5⟩ | ⟨rfl, h5, rfl, rfl, rfl, hown5⟩
  · have := Hl.out
    omega
  have hbW5 : Below w5.heap.size w5 ((w5.alloc (.cells #[.int .u8 0, .int .u8 0, .int .u8 0, .int .u8 0, .int .u8 0, .int .u8 0, .int .u8 0, .int .u8 0, .int .u8 0, .int .u8 0, .int .u8 0, .int .u8 0, .int .u8 0, .int .u8 0, .int .u8 0, .int .u8 0, .int .u8 0, .int .u8 0, .int .u8 0, .int .u8 0, .int .u8 0, .int .u8 0, .int .u8 0, .int .u8 0, .int .u8 0, .int .u8 0, .int .u8 0, .int .u8 0, .int .u8 0, .int .u8 0, .int .u8 0, .int .u8 0, .int .u64 0] 27)).setRow w5.heap.size (drC y5 (N + m3 + m5))) := below_setRow (d_al _ _) (Nat.le_refl _) _
  have hk2 := ((((KeysAt.of_own hown2).below hbW2).below hb3).below hbW3).below hb5 |>.below hbW5
  have hk5 := (KeysAt.of_own hown5).below hbW5
  have ho3 := own_below (own_below (own_below hown3 hbW3) hb5) hbW5
  have hA2 : ∀ q, A2 = some ⟨q, 0, none⟩ → q < w2.heap.size := fun q hq => (hown2.lt q (by rw [hq]; rfl)).2
  have hA3 : ∀ q, (Value.slice A3 m3 c3).ownBlock = some q → x2.heap.size ≤ q ∧ q < w3.heap.size := fun q hq => hown3.lt q hq
  have hl2 := Hl.out
  have hqd := fun wx => eql_dr wx y5 y5 (N + m2) (N + m3 + m5) Hs.out Hs.out
  rw [show (y5 == y5 && N + m2 == N + m3 + m5) = true by simp; omega] at hqd
  have hqk := fun wx => eql_keyF wx y5 y5 Hs.out Hs.out
  simp only [beq_self_eq_true] at hqk
  have hks : keysU y5 N m2 = keysU y5 N m3 ++ keysU y5 (N + m3) m5 := by rw [hl2, keysU_add]
  have Hks := Lib.hid hks
  have uw : IntKind.u64.wrap (m2 : Int) = (m2 : Int) := by rw [IntKind.wrap_u64]; omega
  have uN : IntKind.u64.wrap ((N : Int) + (m2 : Int)) = (N : Int) + (m2 : Int) := by rw [IntKind.wrap_u64]; omega
  have hss : (Tryd.prog.info? 24).map (·.size) = some (keyC y5).toList.length := by simpa using sizeKey Hs.out
  obtain ⟨iK, hiK, hzK, hsK, hbK⟩ := info_parts infoKeyZ
  have h8 : m2 ≤ 60 := by omega
  clear hown2 hown3 hown5 hbW2 hbW3 hb3 hb5 hbW5 hks hl2 H2
  go_upto_region 13 with ((with_reducible show wpList _ _ _ (⟨none, Op.store 27 _ _, _, _, _, _⟩ :: _) _ _); refine wpList_store_row rfl 27 (.tmp 17) (.tmp 57) rfl (w5.heap.size) _ rfl rfl 27 _ (RowC.new _ _ _) Hs5.out Hz5.out Ho5.out ?_)
  try simp only [Act.put]
  refine wp_gen (fun wx => Ms w wx [(w5.heap.size, 27, drC y5 (N + m3 + m5)), (w3.heap.size, 27, drC y5 (N + m3)), (w2.heap.size, 27, drC y5 (N + m2)), (w.heap.size, 27, drC y5 N)] ∧ wx.ownsRow x2.heap.size 24 32 (.slice A3 m3 c3) m3 ((keysU y5 N m3).map bv) ∧ KeysAt wx A2 m2 (keysU y5 N m2) ∧ KeysAt wx A5 m5 (keysU y5 (N + m3) m5)) ⟨hM5, ho3, hk2, hk5⟩ ?_
  clear hM5 ho3 hk2 hk5
  rintro w6 ⟨hM6, ho3, hk2, hk5⟩
  have hx26 : x2.heap.size ≤ w6.heap.size := by have := (hM6.get 1 rfl).lt; omega
  have hl5 : ((keysU y5 (N + m3) m5).map bv).length = m5 * 32 := by rw [List.length_map, keysU_len]
  have hsrc := hk5.src
  go_wp2_with (first
    | ((with_reducible show wpList _ _ _ (⟨some 73, _, _, _, _, _⟩ :: _) _ _); refine wpList_loadC (by kernel_rfl) 27 (.tmp 11) rfl (w2.heap.size) rfl 27 (drC y5 (N + m2)) _ (hM6.get 2 rfl) Tryd.underlying27 rfl Hs2.out ?_)
    | ((with_reducible show wpList _ _ _ (⟨some 74, _, _, _, _, _⟩ :: _) _ _); refine wpList_loadC (by kernel_rfl) 27 (.tmp 17) rfl (w5.heap.size) rfl 27 (drC y5 (N + m3 + m5)) _ (hM6.get 0 rfl) Tryd.underlying27 rfl Hs5.out ?_)
    | (at_builtin; refine wpList_append_rows _ (by kernel_rfl) (.tmp 79) (.tmp 80) _ rfl x2.heap.size 24 iK _ 32 32 Tryd.underlying35 hiK hzK hsK hbK rfl (by omega) (.slice A3 m3 c3) m3 _ rfl ho3 A5 m5 c5 ((keysU y5 (N + m3) m5).map bv) rfl hl5 hsrc (one_bv _) (by simp only [maxLen]; omega) (by omega) hx26 ?_; intro v7 w7 hown7 hgr7; obtain ⟨A7, c7, rfl⟩ := own_sl hown7; rw [← List.map_append, ← Hks.out] at hown7; have hM7 := hM6.grownD hgr7 (fun q hq => by have := (hA3 q hq).1; omega) (fun p hp q hq => by have := hA3 q hq; simp at hp; rcases hp with rfl | rfl | rfl | rfl <;> simp <;> omega); have hsame := RDSame A2 A7 m2 c2 (m3 + m5) c7 (keysU y5 N m2) (keysU y5 N m2) w7 (by omega) (by omega) (hk2.grown hgr7 (fun q hq r hr => by have := hA2 q hq; have := (hA3 r hr).1; omega)) (KeysAt.of_own hown7); rw [beq_self_eq_true] at hsame))
  refine hsame.mono ?_
  rintro e w8 ⟨rfl, hb8⟩
  have hM8 := hM7.call hb8
  have hnA := (hM8.get 2 rfl).nth Hs.out
  have hnB := (hM8.get 3 rfl).nth Hs.out
  go_wp2_with (first
    | ((with_reducible show wpList _ _ _ (⟨some 106, _, _, _, _, _⟩ :: _) _ _); refine wpList_load_midG (by kernel_rfl) 24 (.tmp 105) rfl (w2.heap.size) 0 rfl (keyC y5).toList _ ((hM8.get 2 rfl).seed) Tryd.underlying24 rfl hss ?_; try simp only [Array.toArray_toList])
    | ((with_reducible show wpList _ _ _ (⟨some 108, _, _, _, _, _⟩ :: _) _ _); refine wpList_load_midG (by kernel_rfl) 24 (.tmp 107) rfl (w.heap.size) 0 rfl (keyC y5).toList _ ((hM8.get 3 rfl).seed) Tryd.underlying24 rfl hss ?_; try simp only [Array.toArray_toList]))
  go_ret
  exact ⟨rfl, hM8.old⟩

end Go.Proofs.YtgjeamapgdakcaaDoor

/-
  THE WALK of DrawParts (coterielaw09) at the program's own New, Check, Next, Many and Fork.
-/
set_option linter.unusedVariables false
namespace Go.Proofs.YtgjeamapgdakcaaDoor
open Go.RowKit

theorem walk_DrawParts (s : List UInt8) (N : Nat) (a b : UInt8) (w : World) (hs : s.length = 32) (hb : N < 18446744073709551616) (hT : CTab w) :
    Calls Tryd.prog 4 #[.agg (drC s N), .int .u8 (a.toNat : Int), .int .u8 (b.toNat : Int)] w fun e w' => e = .returned (.bool true) ∧ Below w.heap.size w w' :=
  walkH_DrawParts PDNew PDNext PDMany s N a b w hs hb hT

end Go.Proofs.YtgjeamapgdakcaaDoor

