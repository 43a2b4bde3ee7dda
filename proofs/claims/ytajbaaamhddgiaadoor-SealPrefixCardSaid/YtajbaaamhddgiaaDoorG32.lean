import Derived.Test.YtajbaaamhddgiaaDoorG26
import Derived.Test.YtajbaaamhddgiaaDoorG31
import Derived.Test.YtajbaaamhddgiaaDoorG06
import Derived.StillTailTactics
/-
  CONTRACTS of the document's Ctr (coterieref04) where it answers why not: a text too long, a counter too great.
-/
set_option linter.unusedVariables false
namespace Go.Proofs.YtajbaaamhddgiaaDoor
open Go.RowKit

set_option maxRecDepth 100000 in
set_option maxHeartbeats 800000 in
theorem RCtr_long (k n : List UInt8) (f m c : Nat) (A : Option Addr) (w : World) (hm : 1048576 < m) :
    Calls Tryd.prog 30 #[.agg (k.map bv).toArray, .agg (n.map bv).toArray, .int .u32 (f : Int), .slice A m c] w fun e w' =>
      e = .returned (.tuple #[.slice none 0 0, .int .i64 4]) ∧ Below w.heap.size w w' := by
  have m1 : (1048576 : Int) < (m : Int) := by omega
  clear hm
  go_enter Tryd.func30, Tryd.ntmps30
  go_wp2_with fail
  exact bodyPost_ret (results_tmp2 rfl _ _ _) rfl ⟨rfl, ((Below.refl _ _).alloc (Nat.le_refl _) _).alloc (al0 _ _) _⟩

set_option maxRecDepth 100000 in
set_option maxHeartbeats 800000 in
theorem RCtr_arg (k n : List UInt8) (f m c : Nat) (A : Option Addr) (w : World) (hf : f < 4294967296) (hm : m ≤ 1048576) (hfit : 4294967296 < f + nbs m) :
    Calls Tryd.prog 30 #[.agg (k.map bv).toArray, .agg (n.map bv).toArray, .int .u32 (f : Int), .slice A m c] w fun e w' =>
      e = .returned (.tuple #[.slice none 0 0, .int .i64 1]) ∧ Below w.heap.size w w' := by
  have f0 : (0 : Int) ≤ (f : Int) := by omega
  have m0 : (0 : Int) ≤ (m : Int) := by omega
  have m1 : (m : Int) ≤ 1048576 := by omega
  have q1 : ((m : Int) + 15) / 16 = ((nbs m : Nat) : Int) := by unfold nbs; omega
  have q2 : ((m : Int) + 15).tdiv 16 = ((nbs m : Nat) : Int) := by rw [Int.tdiv_eq_ediv_of_nonneg (by omega)]; unfold nbs; omega
  have q3 : 4294967296 < (f : Int) + ((nbs m : Nat) : Int) := by omega
  have hnb : nbs m ≤ 65536 := by unfold nbs; omega
  have hw4 : IntKind.u64.wrap (f : Int) = (f : Int) := by rw [IntKind.wrap_u64]; omega
  have hw5 : IntKind.u64.wrap ((f : Int) + ((nbs m : Nat) : Int)) = (f : Int) + ((nbs m : Nat) : Int) := by rw [IntKind.wrap_u64]; omega
  have hw6 : IntKind.u64.wrap ((m : Int) + 15) = (m : Int) + 15 := by rw [IntKind.wrap_u64]; omega
  generalize nbs m = N at *
  go_enter Tryd.func30, Tryd.ntmps30
  go_wp2_with fail
  exact bodyPost_ret (results_tmp2 rfl _ _ _) rfl ⟨rfl, ((Below.refl _ _).alloc (Nat.le_refl _) _).alloc (al0 _ _) _⟩

end Go.Proofs.YtajbaaamhddgiaaDoor

/-
  THE STREAM, BYTE BY BYTE: done twice a text is as it was; parts of whole blocks come to the same as all at once; of zeros it is the counters' blocks, encrypted. Nothing of the program.
-/
set_option linter.unusedVariables false
namespace Go.Proofs.YtajbaaamhddgiaaDoor
open Go.RowKit

theorem at0_some {l : List UInt8} {i : Nat} {v : UInt8} (h : l[i]? = some v) : at0 l i = v := by
  have hi : i < l.length := (List.getElem?_eq_some_iff.1 h).1
  have := at0_of hi
  rw [h] at this
  injection this with e
  exact e.symm
theorem at0_ext {l m : List UInt8} (hl : l.length = m.length) (h : ∀ i, i < l.length → at0 l i = at0 m i) : l = m := by
  apply List.ext_getElem? 
  intro i
  by_cases hi : i < l.length
  · rw [at0_of hi, at0_of (by omega), h i hi]
  · rw [List.getElem?_eq_none (by omega), List.getElem?_eq_none (by omega)]
theorem xorAt_at (ys : List UInt8) (p : Nat) (s : List UInt8) {i : Nat} (hi : i < ys.length) : (xorAt ys p s)[i]? = some (if p ≤ i ∧ i < p + 16 then at0 ys i ^^^ at0 s (i - p) else at0 ys i) := by simp [xorAt, hi]

theorem ctrTo_at (k n : List UInt8) (f : Nat) (b : List UInt8) : ∀ J i, i < b.length → at0 (ctrTo k n f b J) i = if i / 16 < J then at0 b i ^^^ at0 (encU k (cinU n (f + i / 16))) (i % 16) else at0 b i
  | 0, i, hi => by rw [if_neg (by omega)]; rfl
  | J + 1, i, hi => by
    have ih := ctrTo_at k n f b J i hi
    have h := xorAt_at (ctrTo k n f b J) (16 * J) (encU k (cinU n (f + J))) (i := i) (by rw [ctrTo_len]; exact hi)
    rw [ctrTo, at0_some h]
    by_cases h1 : 16 * J ≤ i ∧ i < 16 * J + 16
    · have hq : i / 16 = J := by omega
      rw [if_pos h1, ih, if_neg (by omega), if_pos (by omega), hq, show i - 16 * J = i % 16 by omega]
    · rw [if_neg h1, ih]
      by_cases h2 : i / 16 < J
      · rw [if_pos h2, if_pos (by omega)]
      · rw [if_neg h2, if_neg (by omega)]
theorem ctrU_len (k n : List UInt8) (f : Nat) (b : List UInt8) : (ctrU k n f b).length = b.length := ctrTo_len _ _ _ _ _
theorem ctrU_at (k n : List UInt8) (f : Nat) {b : List UInt8} {i : Nat} (hi : i < b.length) : at0 (ctrU k n f b) i = at0 b i ^^^ at0 (encU k (cinU n (f + i / 16))) (i % 16) := by
  rw [ctrU, ctrTo_at k n f b _ i hi, if_pos (by unfold nbs; omega)]

theorem ctr_twice (k n : List UInt8) (f : Nat) (b : List UInt8) : ctrU k n f (ctrU k n f b) = b := by
  refine at0_ext (by rw [ctrU_len, ctrU_len]) fun i hi => ?_
  rw [ctrU_len, ctrU_len] at hi
  rw [ctrU_at k n f (by rw [ctrU_len]; exact hi), ctrU_at k n f hi, UInt8.xor_assoc, UInt8.xor_self, UInt8.xor_zero]

theorem ctr_split (k n : List UInt8) (f B : Nat) (b : List UInt8) (hB : 16 * B ≤ b.length) : ctrU k n f b = ctrU k n f (b.take (16 * B)) ++ ctrU k n (f + B) (b.drop (16 * B)) := by
  have hlt : (b.take (16 * B)).length = 16 * B := by rw [List.length_take]; omega
  have hld : (b.drop (16 * B)).length = b.length - 16 * B := List.length_drop
  refine at0_ext (by rw [List.length_append, ctrU_len, ctrU_len, ctrU_len, hlt, hld]; omega) fun i hi => ?_
  rw [ctrU_len] at hi
  by_cases h : i < 16 * B
  · have e : (ctrU k n f (b.take (16 * B)) ++ ctrU k n (f + B) (b.drop (16 * B)))[i]? = (ctrU k n f (b.take (16 * B)))[i]? := List.getElem?_append_left (by rw [ctrU_len, hlt]; exact h)
    have e2 := at0_of (l := ctrU k n f (b.take (16 * B))) (i := i) (by rw [ctrU_len, hlt]; exact h)
    have e3 : at0 (b.take (16 * B)) i = at0 b i := at0_some (by rw [List.getElem?_take, if_pos h]; exact at0_of hi)
    rw [at0_some (e.trans e2), ctrU_at k n f hi, ctrU_at k n f (by rw [hlt]; exact h), e3]
  · have hj : i - 16 * B < (b.drop (16 * B)).length := by rw [hld]; omega
    have e : (ctrU k n f (b.take (16 * B)) ++ ctrU k n (f + B) (b.drop (16 * B)))[i]? = (ctrU k n (f + B) (b.drop (16 * B)))[i - 16 * B]? := by
      rw [List.getElem?_append_right (by rw [ctrU_len, hlt]; omega), ctrU_len, hlt]
    have e2 := at0_of (l := ctrU k n (f + B) (b.drop (16 * B))) (i := i - 16 * B) (by rw [ctrU_len]; exact hj)
    have e3 : at0 (b.drop (16 * B)) (i - 16 * B) = at0 b i := at0_some (by rw [List.getElem?_drop, show 16 * B + (i - 16 * B) = i by omega]; exact at0_of hi)
    rw [at0_some (e.trans e2), ctrU_at k n f hi, ctrU_at k n (f + B) hj, e3, show f + B + (i - 16 * B) / 16 = f + i / 16 by omega, show (i - 16 * B) % 16 = i % 16 by omega]

theorem ctr_take (k n : List UInt8) (f B : Nat) (b : List UInt8) (hB : 16 * B ≤ b.length) : (ctrU k n f b).take (16 * B) = ctrU k n f (b.take (16 * B)) := by
  rw [ctr_split k n f B b hB, List.take_append_of_le_length (by rw [ctrU_len, List.length_take]; omega), List.take_of_length_le (by rw [ctrU_len, List.length_take]; omega)]

theorem ctr_zeros (k n : List UInt8) (f M i : Nat) (hk : k.length = 16) (hi : i < M) : ((ctrU k n f (List.replicate (16 * M) 0)).drop (16 * i)).take 16 = encU k (cinU n (f + i)) := by
  have hl : (((ctrU k n f (List.replicate (16 * M) 0)).drop (16 * i)).take 16).length = 16 := by rw [List.length_take, List.length_drop, ctrU_len, List.length_replicate]; omega
  refine at0_ext (by rw [hl, encU_len]) fun j hj => ?_
  rw [hl] at hj
  have hjj : 16 * i + j < 16 * M := by omega
  have e := ctrU_at k n f (b := List.replicate (16 * M) 0) (i := 16 * i + j) (by rw [List.length_replicate]; exact hjj)
  have e0 : at0 (List.replicate (16 * M) (0 : UInt8)) (16 * i + j) = 0 := at0_some (by rw [List.getElem?_replicate, if_pos hjj])
  rw [e0, UInt8.zero_xor, show (16 * i + j) / 16 = i by omega, show (16 * i + j) % 16 = j by omega] at e
  rw [← e]
  refine at0_some ?_
  rw [List.getElem?_take, if_pos hj, List.getElem?_drop]
  exact at0_of (by rw [ctrU_len, List.length_replicate]; exact hjj)

end Go.Proofs.YtajbaaamhddgiaaDoor

/-
  A COUNTER's FOUR BYTES by the document's Bytes, and where they lie in a block.
-/
set_option linter.unusedVariables false
namespace Go.Proofs.YtajbaaamhddgiaaDoor
open Go.RowKit

theorem Bytes_4 (x : Nat) (y : Int) (w : World) (hy : y = (x : Int)) (hx : x < 18446744073709551616) :
    Calls Tryd.prog 32 #[.int .i64 4, .int .u64 y] w fun e w' =>
      ∃ g c, e = .returned (.slice (some ⟨g, 0, none⟩) 4 c) ∧ (∀ j v, ((be 4 x).map bv)[j]? = some v → w'.cell? ((⟨g, 0, none⟩ : Addr).add j) = some v) ∧ Below w.heap.size w w' := by
  subst hy
  refine (Bytes_any 4 x w (by omega) hx).mono ?_
  rintro e w' ⟨A, c, rfl, ho, hb⟩
  obtain ⟨g, cap, hv, _, _⟩ := ho.form (by decide)
  injection hv with hv1 _ _
  subst hv1
  exact ⟨g, c, rfl, fun j v h => ho.cells (g := g) rfl j v h, hb⟩

theorem cin_splice {n : List UInt8} (h : n.length = 12) (x : Nat) : splice (splice zero16 0 n) 12 (be 4 x) = cinU n x := by
  have hz : zero16 = List.replicate 12 0 ++ List.replicate 4 0 := rfl
  have h1 : splice zero16 0 n = n ++ List.replicate 4 0 := by
    rw [hz]
    have := splice_in (α := UInt8) [] (List.replicate 12 0 ++ List.replicate 4 0) n (by simp [h])
    simp only [List.nil_append, List.length_nil] at this
    rw [this, h, List.drop_left' (by simp)]
  rw [h1]
  have := splice_in n (List.replicate 4 0) (be 4 x) (by simp [be_length])
  rw [h] at this
  rw [this]
  simp [be_length, cinU]
theorem nbs_16 (M : Nat) : nbs (16 * M) = M := by unfold nbs; omega

end Go.Proofs.YtajbaaamhddgiaaDoor

/-
  CONTRACT of the document's Ctr (coterieref04) where it answers a text.
-/
set_option linter.unusedVariables false
namespace Go.Proofs.YtajbaaamhddgiaaDoor
open Go.RowKit

/-- what a walk of Ctr keeps: its own boxes, and the text -/
structure Cst (w wr : World) (k n b : List UInt8) (A : Option Addr) (m : Nat) : Prop where
  key : ArrB wr w.heap.size 51 k
  non : ArrB wr (w.heap.size + 1) 53 n
  txt : Rd wr w.heap.size A m (b.map bv)
  bel : Below w.heap.size w wr
section
variable {w wr w' : World} {k n b : List UInt8} {A : Option Addr} {m : Nat}
theorem Cst.size (h : Cst w wr k n b A m) : w.heap.size + 2 ≤ wr.heap.size := h.non.lt
theorem Cst.call (h : Cst w wr k n b A m) (hb : Below wr.heap.size wr w') : Cst w w' k n b A m :=
  ⟨h.key.below hb h.key.lt, h.non.below hb h.non.lt, h.txt.below (hb.mono h.bel.size), h.bel.trans (hb.mono h.bel.size)⟩
theorem Cst.alloc (h : Cst w wr k n b A m) (o : Obj) : Cst w (wr.alloc o) k n b A m := h.call (c_alloc (c_refl _) o)
theorem Cst.drew (h : Cst w wr k n b A m) : Cst w wr.drew k n b A m := h.call (c_drew (c_refl _))
theorem Cst.setCell (h : Cst w wr k n b A m) {p : Addr} (hp : w.heap.size + 2 ≤ p.block) (u : Value) : Cst w (wr.setCell p u) k n b A m :=
  ⟨h.key.far (by omega) u, h.non.far (by omega) u, h.txt.setCell (by omega) u, h.bel.setCell (by omega) u⟩
theorem Cst.row (h : Cst w wr k n b A m) {g : Nat} (hg : w.heap.size + 2 ≤ g) (cs : Array Value) : Cst w (wr.setRow g cs) k n b A m :=
  ⟨h.key.rowFar (by omega) cs, h.non.rowFar (by omega) cs, h.txt.below (below_setRow (Below.refl _ _) (by omega) cs), below_setRow h.bel (by omega) cs⟩
theorem Cst.grown (h : Cst w wr k n b A m) {row : Option Nat} (hg : wr.grownBy w' row) (hr : ∀ g, row = some g → w.heap.size + 2 ≤ g) : Cst w w' k n b A m :=
  ⟨h.key.of (hg.block _ h.key.lt (fun e => by have := hr _ e.symm; omega)), h.non.of (hg.block _ h.non.lt (fun e => by have := hr _ e.symm; omega)),
    h.txt.grown hg h.bel.size (fun g e => by have := hr _ e; omega), h.bel.grown hg h.bel.size (fun g e => by have := hr _ e; omega)⟩
end

theorem own_set_far {w : World} {base : Nat} {e : TypeId} {size : Nat} {v : Value} {n : Nat} {xs : List Value} {p : Addr} (h : w.ownsRow base e size v n xs) (hp : ∀ g, v.ownBlock = some g → g ≠ p.block) (u : Value) : (w.setCell p u).ownsRow base e size v n xs :=
  own_far h (by simp [World.setCell]) (fun g hg => Below.heap_setCell w p u g (hp g hg))
theorem own_row_far {w : World} {base : Nat} {e : TypeId} {size : Nat} {v : Value} {n : Nat} {xs : List Value} {g' : Nat} (h : w.ownsRow base e size v n xs) (hp : ∀ g, v.ownBlock = some g → g ≠ g') (cs : Array Value) : (w.setRow g' cs).ownsRow base e size v n xs :=
  own_far h (by simp [World.setRow]) (fun g hg => setRow_other w g' g cs (hp g hg))
theorem Bytes_4g (x : Nat) (w : World) (hx : x < 18446744073709551616) :
    Calls Tryd.prog 32 #[.int .i64 4, .int .u64 (x : Int)] w fun e w' =>
      ∃ g c, e = .returned (.slice (some ⟨g, 0, none⟩) 4 c) ∧ w.heap.size ≤ g ∧ 4 ≤ c ∧ (∀ i y, (be 4 x)[i]? = some y → w'.cell? ⟨g, i, none⟩ = some (.int .u8 (y.toNat : Int))) ∧ Below w.heap.size w w' := by
  refine (Bytes_any 4 x w (by omega) hx).mono ?_
  rintro e w' ⟨A, c, rfl, ho, hb⟩
  obtain ⟨g, cap, hv, hg, _⟩ := ho.form (by decide)
  obtain ⟨_, _, hf, hc, _⟩ := own_form ho
  injection hf with _ _ hf3
  injection hv with hv1 _ _
  subst hv1
  refine ⟨g, c, rfl, hg, by omega, fun i y h => ?_, hb⟩
  have := ho.cells (g := g) rfl i (bv y) (by rw [List.getElem?_map, h]; rfl)
  rwa [Addr.add_lit, Nat.zero_add] at this
theorem step_append_at {P : Program} {w : World} {ops : Array Oper} {o : Oper} {a : Act} {K : Act → World → Prop} {Q : Exit → Act → World → Prop} {E : Prop} (hgd : Region.wanted o (yielded ops a.tmps) = true) (dst : Option Tmp) (hd : o.dst = dst) (s x : Operand) (t : TypeId)
    (ho : o.op = .call { callee := .builtin .append, args := #[s, x], argTypes := #[t, t] })
    (base : Nat) (e : TypeId) (i : TypeInfo) (z : Value) (bytes : Nat) (ht : P.underlying t = some (.slice e)) (hi : P.info? e = some i) (hz : i.zero = some z)
    (hsize : i.size = 1) (hby : i.bytes = bytes) (hzs : z.cells.size = 1)
    (v : Value) (n : Nat) (xs : List Value) (hs : a.eval s = v) (hown : w.ownsRow base e 1 v n xs)
    (B : Nat) (A : Option Addr) (m c : Nat) (news : List Value) (hx : a.eval x = .slice A m c) (hr : Rd w B A m news) (h1 : ∀ u ∈ news, u.oneCell' = true)
    (h63 : n + m ≤ maxLen) (hbytes : (n + m) * bytes ≤ 140737488355328) (hbase : base ≤ w.heap.size)
    (h : ∀ v' w', w'.ownsRow base e 1 v' (n + m) (xs ++ news) → w.grownBy w' v.ownBlock → (v'.ownBlock = v.ownBlock ∨ v'.ownBlock = some w.heap.size) → K (a.put dst v') w') : if Region.wanted o (yielded ops a.tmps) = true then Oper.wp P o a w K Q else E := by
  subst hd
  rw [if_pos hgd]
  obtain ⟨v', w', hrun, h2, h3, h4⟩ := run_append_rd (P := P) w base t o.type e i z bytes ht hi hz hsize hby hzs v n xs hown B A m c news hr h1 h63 hbytes hbase
  unfold Oper.wp execOp
  simp only [ho, resolve, invoke, builtin, Sem.run_bind, Sem.run_pure, Result.andThen_ok, List.map_toArray, List.map_cons, List.map_nil, hs, hx, hrun]
  exact h v' w' h2 h3 h4
theorem size12n {l : List UInt8} (h : l.length = 12) : (Tryd.prog.info? 53).map (·.size) = some (l.map bv).toArray.size := by rw [info12]; simp [h]
theorem upto_cin {c : List UInt8} (h : c.length = 16) : upto (at0 c) (fun _ => 0) 16 16 = c := by
  refine at0_ext (by rw [upto_len, h]) (fun i hi => ?_)
  rw [upto_len] at hi
  exact at0_some (upto_done _ _ hi hi)
theorem cin_low {n : List UInt8} {c x : Nat} (hx : x < n.length) : at0 (cinU n c) x = at0 n x := by
  refine at0_some ?_
  rw [cinU, List.getElem?_append_left hx]
  exact at0_of hx
theorem cin_high {n : List UInt8} (h : n.length = 12) {c x : Nat} (hx : x < 4) : (be 4 c)[x]? = some (at0 (cinU n c) (12 + x)) := by
  have h1 := at0_of (l := cinU n c) (i := 12 + x) (by rw [cinU_len h]; omega)
  rw [← h1, cinU, List.getElem?_append_right (by omega), h]
  congr 1
  omega
theorem take_more {U : List UInt8} {q : Nat} (hq : q < U.length) : (U.take (q + 1)).map bv = (U.take q).map bv ++ [.int .u8 ((at0 U q).toNat : Int)] := by
  rw [List.take_add_one, at0_of hq, List.map_append]
  rfl

set_option maxRecDepth 100000 in
set_option maxHeartbeats 8000000 in
theorem RCtr_ok (k n b : List UInt8) (f m c : Nat) (A : Option Addr) (w : World) (hk : k.length = 16) (hn : n.length = 12) (hf : f < 4294967296) (hr : Rd w w.heap.size A m (b.map bv)) (hm : m ≤ 1048576) (hfit : f + nbs m ≤ 4294967296) :
    Calls Tryd.prog 30 #[.agg (k.map bv).toArray, .agg (n.map bv).toArray, .int .u32 (f : Int), .slice A m c] w fun e w' =>
      ∃ A' c', e = .returned (.tuple #[.slice A' m c', .int .i64 0]) ∧ w'.ownsRow w.heap.size 5 1 (.slice A' m c') m ((ctrU k n f b).map bv) ∧ Below w.heap.size w w' := by
  have Hk := Lib.hid hk
  have Hn := Lib.hid hn
  have hbl : b.length = m := by have := hr.len; simpa using this
  obtain ⟨U, hU⟩ : ∃ U, U = ctrU k n f b := ⟨_, rfl⟩
  have HUl := Lib.hid (show U.length = m by rw [hU, ctrU_len, hbl])
  have HUat := Lib.hid (show ∀ i, i < m → at0 U i = at0 b i ^^^ at0 (encU k (cinU n (f + i / 16))) (i % 16) from fun i hi => by rw [hU]; exact ctrU_at k n f (by omega))
  have Hb := Lib.hid hbl
  rw [← hU]
  clear hU hbl
  have hC0 : Cst w ((w.alloc (.cells (k.map bv).toArray 51)).alloc (.cells (n.map bv).toArray 53)) k n b A m :=
    ⟨(ArrB.mk_ w 51 _ k rfl rfl).alloc _, ArrB.mk_ _ 53 _ n (by simp) rfl, (hr.alloc (Nat.le_refl _) _).alloc (al0 _ _) _, ((Below.refl w.heap.size w).alloc (Nat.le_refl _) _).alloc (al0 _ _) _⟩
  have f0 : (0 : Int) ≤ (f : Int) := by omega
  have m0 : (0 : Int) ≤ (m : Int) := by omega
  have m1 : (m : Int) ≤ 1048576 := by omega
  have q1 : ((m : Int) + 15) / 16 = ((nbs m : Nat) : Int) := by unfold nbs; omega
  have q2 : ((m : Int) + 15).tdiv 16 = ((nbs m : Nat) : Int) := by rw [Int.tdiv_eq_ediv_of_nonneg (by omega)]; unfold nbs; omega
  have q3 : (f : Int) + ((nbs m : Nat) : Int) ≤ 4294967296 := by omega
  have hnb : nbs m ≤ 65536 := by unfold nbs; omega
  have hw4 : IntKind.u64.wrap (f : Int) = (f : Int) := by rw [IntKind.wrap_u64]; omega
  have hw5 : IntKind.u64.wrap ((f : Int) + ((nbs m : Nat) : Int)) = (f : Int) + ((nbs m : Nat) : Int) := by rw [IntKind.wrap_u64]; omega
  have hw6 : IntKind.u64.wrap ((m : Int) + 15) = (m : Int) + 15 := by rw [IntKind.wrap_u64]; omega
  have HN := Lib.hid (show ∀ j, j < nbs m → 16 * j < m ∧ f + j < 4294967296 ∧ j < 65536 from fun j hj => by unfold nbs at *; omega)
  have HN2 := Lib.hid (show m ≤ 16 * nbs m by unfold nbs; omega)
  have Hm := Lib.hid hm
  obtain ⟨i0, hi0, hz0, hz1, hz2⟩ := info_parts byteInfo
  have byte_plain : Tryd.prog.plainKey 5 = true := by kernel_rfl
  clear hk hn hf hr hm hfit hnb
  generalize nbs m = N at *
  go_enter Tryd.func30, Tryd.ntmps30
  go_wp2_with fail
  refine wp_gen (fun wx => Cst w wx k n b A m) hC0 ?_
  clear hC0 q1 q2 q3 hw4 hw5 hw6
  rintro w1 hC
  go_loopw [11, 34] (fun v i wr => ∃ j : Nat, j ≤ N ∧ i = .int .u64 (j : Int) ∧ wr.ownsRow (w.heap.size + 2) 5 1 v (U.take (16 * j)).length ((U.take (16 * j)).map bv) ∧ Cst w wr k n b A m) (fun _ i _ => (N - intOf i).toNat)
  case atStart => exact ⟨0, Nat.zero_le _, rfl, World.ownsRow_nil _ _ _ _, hC⟩
  case round =>
    clear hC
    obtain ⟨j, hj, rfl, hown, hC⟩ := hrel
    by_cases hlt : j < N
    · obtain ⟨hp0, hfj, hj6⟩ := HN.out j hlt
      have hwj : IntKind.u64.wrap ((f : Int) + (j : Int)) = ((f + j : Nat) : Int) := by rw [IntKind.wrap_u64]; omega
      have hwf : IntKind.u64.wrap (f : Int) = (f : Int) := by rw [IntKind.wrap_u64]; omega
      have hwi : IntKind.i64.wrap (j : Int) = (j : Int) := by rw [IntKind.wrap_i64]; omega
      have hwp : IntKind.i64.wrap ((j : Int) * 16) = ((16 * j : Nat) : Int) := by rw [IntKind.wrap_i64]; omega
      have Hlt := Lib.hid hlt
      have hl0 : (U.take (16 * j)).length = 16 * j := by rw [List.length_take, HUl.out]; omega
      rw [hl0] at hown
      obtain ⟨A0, c0, rfl, hc0, _⟩ := own_form hown
      have Hnw := Lib.hid (show ∀ g, (Value.slice A0 (16 * j) c0).ownBlock = some g → g < wr.heap.size from fun g hg => (hown.lt g hg).2)
      have Hfj := Lib.hid hfj
      have hjN : (j : Int) < (N : Int) := by omega
      have hj0 : (0 : Int) ≤ (j : Int) := by omega
      obtain ⟨p, hp⟩ : ∃ p, p = 16 * j := ⟨_, rfl⟩
      have Hp := Lib.hid hp
      rw [← hp] at hwp hown hp0 Hnw ⊢
      obtain ⟨ct, hct⟩ : ∃ ct, ct = f + j := ⟨_, rfl⟩
      rw [← hct] at hwj hfj
      have Hct := Lib.hid hct
      have Hp0 := Lib.hid hp0
      clear hp hct hlt hl0 hfj hj6 hp0
      have hI := (ArrB.mk_ wr 51 _ zero16 rfl rfl)
      have hC1 := hC.alloc (.cells (zero16.map bv).toArray 51)
      have hown1 := own_below_ hown (c_alloc (c_refl _) (.cells (zero16.map bv).toArray 51))
      have hC2n := hC1.non
      go_wp2_with ((with_reducible show wpList _ _ _ (⟨some 37, _, _, _, _, _⟩ :: _) _ _); refine wpList_load_row rfl 53 (.tmp 5) rfl (w.heap.size + 1) rfl 53 (n.map bv).toArray (0, 0) _ hC2n Tryd.underlying53 rfl (size12n Hn.out) ?_)
      have Hsz := Lib.hid hC.size
      refine wp_gen (fun wx => Cst w wx k n b A m ∧ ArrB wx wr.heap.size 51 (upto (at0 (cinU n ct)) (fun _ => 0) 16 0) ∧ wx.ownsRow (w.heap.size + 2) 5 1 (.slice A0 p c0) p ((U.take p).map bv)) ⟨hC1, by rw [upto_zero]; exact hI, hown1⟩ ?_
      clear hC hC1 hown1 hI hC2n hown
      generalize wr.heap.size = gI at *
      rintro w2 ⟨hC, hI, hown⟩
      go_loopw [38] (fun i wr => ∃ x : Nat, x ≤ 12 ∧ i = .int .i64 (x : Int) ∧ Cst w wr k n b A m ∧ ArrB wr gI 51 (upto (at0 (cinU n ct)) (fun _ => 0) 16 x) ∧ wr.ownsRow (w.heap.size + 2) 5 1 (.slice A0 p c0) p ((U.take p).map bv)) (fun i _ => (12 - intOf i).toNat)
      case atStart => exact ⟨0, by omega, rfl, hC, hI, hown⟩
      case round =>
        clear hC hI hown
        obtain ⟨x, hx, rfl, hC, hI, hown⟩ := hrel
        by_cases hlx : x < 12
        · have hxn : x < n.length := by rw [Hn.out]; exact hlx
          have hix : ((n.map bv).toArray)[x]? = some (.int .u8 ((at0 n x).toNat : Int)) := by
            have := at0_of hxn
            simp [this, bv]
          have hca := hI.cell (upto_old (at0 (cinU n ct)) (fun _ => 0) (show x < 16 by omega) (Nat.le_refl x))
          have hfa := hI.frozen x
          have hset := hI.set_ x (at0 (cinU n ct) x)
          rw [← upto_succ, cin_low hxn] at hset
          have hC2 := hC.setCell (p := ⟨gI, x, none⟩) Hsz.out (.int .u8 ((at0 n x).toNat : Int))
          have ho2 := own_set_far (p := ⟨gI, x, none⟩) hown (fun g hg => by have := Hnw.out g hg; show g ≠ gI; omega) (.int .u8 ((at0 n x).toNat : Int))
          have j0 : 0 ≤ (x : Int) := by omega
          have j1 : (x : Int) < 12 := by omega
          have j2 : (x : Int) < 16 := by omega
          generalize at0 n x = y at *
          clear hC hI hown hxn
          obtain ⟨ib, hib⟩ := byte_info
          go_wp2_with ((with_reducible show wpList _ _ _ (⟨some 41, _, _, _, _, _⟩ :: _) _ _); refine wpList_index_cell rfl (some 41) rfl 53 (.tmp 37) (.tmp 38) rfl (n.map bv).toArray rfl x rfl 12 5 Tryd.underlying53 byte_plain ib hib byteCells _ hix hlx ?_)
          exact ⟨⟨x + 1, by omega, by go_num, hC2, hset, ho2⟩, by simp [intOf]; omega⟩
        · obtain rfl : x = 12 := by omega
          rw [show ((12 : Nat) : Int) = 12 from rfl]
          go_wp2_with fail
          refine (Bytes_4g ct _ (by have := Hfj.out; have := Hct.out; omega)).mono ?_
          rintro e w3 ⟨gB, cB, rfl, hgB, hcB, hcells, hb3⟩
          have hgI := hI.lt
          have hgne : gI ≠ gB := by omega
          have hC3 := hC.call hb3
          have hI3 := hI.below hb3 hI.lt
          have ho3 := own_below_ hown hb3
          clear hC hI hown hb3
          go_wp2_with fail
          go_loopw [52] (fun i wr => ∃ x : Nat, x ≤ 4 ∧ i = .int .i64 (x : Int) ∧ Cst w wr k n b A m ∧ ArrB wr gI 51 (upto (at0 (cinU n ct)) (fun _ => 0) 16 (12 + x)) ∧ wr.ownsRow (w.heap.size + 2) 5 1 (.slice A0 p c0) p ((U.take p).map bv) ∧ (∀ i y, (be 4 ct)[i]? = some y → wr.cell? ⟨gB, i, none⟩ = some (.int .u8 (y.toNat : Int)))) (fun i _ => (4 - intOf i).toNat)
          case atStart => exact ⟨0, by omega, rfl, hC3, hI3, ho3, hcells⟩
          case round =>
            clear hC3 hI3 ho3 hcells
            obtain ⟨x, hx, rfl, hC, hI, hown, hcells⟩ := hrel
            by_cases hlx2 : x < 4
            · have hcy := hcells x _ (cin_high Hn.out hlx2)
              have hca := hI.cell (upto_old (at0 (cinU n ct)) (fun _ => 0) (show 12 + x < 16 by omega) (Nat.le_refl _))
              have hfa := hI.frozen (12 + x)
              have hset := hI.set_ (12 + x) (at0 (cinU n ct) (12 + x))
              rw [← upto_succ] at hset
              have hC2 := hC.setCell (p := ⟨gI, 12 + x, none⟩) Hsz.out (.int .u8 ((at0 (cinU n ct) (12 + x)).toNat : Int))
              have ho2 := own_set_far (p := ⟨gI, 12 + x, none⟩) hown (fun g hg => by have := Hnw.out g hg; show g ≠ gI; omega) (.int .u8 ((at0 (cinU n ct) (12 + x)).toNat : Int))
              have hcells2 : ∀ i y, (be 4 ct)[i]? = some y → (wr.setCell ⟨gI, 12 + x, none⟩ (.int .u8 ((at0 (cinU n ct) (12 + x)).toNat : Int))).cell? ⟨gB, i, none⟩ = some (.int .u8 (y.toNat : Int)) := fun i y h => by
                rw [World.cell?_setCell_other _ _ _ _ (fun e => hgne (congrArg Addr.block e))]
                exact hcells i y h
              have hw12 : IntKind.i64.wrap (12 + (x : Int)) = ((12 + x : Nat) : Int) := by rw [IntKind.wrap_i64]; omega
              have j0 : 0 ≤ (x : Int) := by omega
              have j1 : (x : Int) < 4 := by omega
              have j2 : 0 ≤ ((12 + x : Nat) : Int) := by omega
              have j3 : ((12 + x : Nat) : Int) < 16 := by omega
              rw [show 12 + x + 1 = 12 + (x + 1) by omega] at hset
              have HS := Lib.hid hset
              clear hset hC hI hown hcells
              generalize at0 (cinU n ct) (12 + x) = y at *
              have hxx : x ≤ x := Nat.le_refl x
              generalize hq : 12 + x = q at *
              have HQ := Lib.hid hq
              clear hq
              go_wp2_with fail
              exact ⟨⟨x + 1, by omega, by go_num, hC2, HS.out, ho2, hcells2⟩, by simp [intOf]; omega⟩
            · obtain rfl : x = 4 := by omega
              rw [show ((4 : Nat) : Int) = 4 from rfl]
              rw [show 12 + 4 = 16 from rfl, upto_cin (cinU_len Hn.out ct)] at hI
              have hkr := hC.key
              go_wp2_with (first
                | ((with_reducible show wpList _ _ _ (⟨some 62, _, _, _, _, _⟩ :: _) _ _); refine wpList_load_row rfl 51 (.tmp 4) rfl w.heap.size rfl 51 (k.map bv).toArray (0, 0) _ hkr Tryd.underlying51 rfl (size16 Hk.out) ?_)
                | ((with_reducible show wpList _ _ _ (⟨some 63, _, _, _, _, _⟩ :: _) _ _); refine wpList_load_row rfl 51 (.tmp 13) rfl gI rfl 51 ((cinU n ct).map bv).toArray (0, 0) _ hI Tryd.underlying51 rfl (size16 (cinU_len Hn.out ct)) ?_))
              refine (REncrypt_any k (cinU n ct) _ Hk.out (cinU_len Hn.out ct)).mono ?_
              rintro e w5 ⟨rfl, hb5⟩
              have hC5 := hC.call hb5
              have ho5 := own_below_ hown hb5
              have Hat := Lib.hid (show ∀ x, x < 16 → p + x < m → at0 U (p + x) = at0 b (p + x) ^^^ at0 (encU k (cinU n ct)) x from fun x hx hpx => by
                rw [HUat.out _ hpx, show (p + x) / 16 = j by rw [Hp.out]; omega, show (p + x) % 16 = x by rw [Hp.out]; omega, ← Hct.out])
              have Hsl := Lib.hid (encU_len k (cinU n ct))
              have Hbel := Lib.hid (show ∀ g, (Value.slice A0 p c0).ownBlock = some g → g ≠ w5.heap.size from fun g hg => Nat.ne_of_lt (ho5.lt g hg).2)
              have hsz5 := hC5.size
              clear hC hI hown hcells hkr hb5 hgne hgB hcB hgI
              generalize encU k (cinU n ct) = s at *
              have hC6 := (hC5.alloc (.cells (zero16.map bv).toArray 51)).row hsz5 (s.map bv).toArray
              have hS6 := (ArrB.mk_ w5 51 _ zero16 rfl rfl).row s
              have ho6 := own_row_far (own_below_ ho5 (c_alloc (c_refl _) (.cells (zero16.map bv).toArray 51))) Hbel.out (s.map bv).toArray
              go_wp2_with ((with_reducible show wpList _ _ _ (⟨none, Op.store 51 _ _, _, _, _, _⟩ :: _) _ _); refine wpList_store_row rfl 51 (.tmp 18) (.tmp 64) rfl w5.heap.size (s.map bv).toArray rfl rfl 51 (zero16.map bv).toArray (heap_alloc_new _ _) (size16 Hsl.out) (same16 Hsl.out zero16_len) (one_bvA _) ?_)
              refine wp_gen (fun wx => Cst w wx k n b A m ∧ ArrB wx w5.heap.size 51 s ∧ wx.ownsRow (w.heap.size + 2) 5 1 (.slice A0 p c0) p ((U.take p).map bv)) ⟨hC6, hS6, ho6⟩ ?_
              clear hC5 ho5 hC6 hS6 ho6 Hnw Hsz
              have Hsz := Lib.hid hsz5
              clear hsz5
              generalize w5.heap.size = gS at *
              rintro w6 ⟨hC, hS, hown⟩
              go_loopw [11, 19] (fun v i wr => ∃ x : Nat, x ≤ 16 ∧ p + x ≤ m ∧ i = .int .i64 (x : Int) ∧ wr.ownsRow (w.heap.size + 2) 5 1 v (p + x) ((U.take (p + x)).map bv) ∧ Cst w wr k n b A m ∧ ArrB wr gS 51 s ∧ (∀ g, v.ownBlock = some g → g ≠ gS)) (fun _ i _ => (16 - intOf i).toNat)
              case atStart => exact ⟨0, by omega, by have := Hp0.out; omega, rfl, hown, hC, hS, Hbel.out⟩
              case round =>
                clear hC hS hown Hbel
                obtain ⟨x, hx, hpx, rfl, hown, hC, hS, hne⟩ := hrel
                by_cases hx16 : x < 16
                · have j0 : 0 ≤ (x : Int) := by omega
                  have j1 : (x : Int) < 16 := by omega
                  obtain ⟨q, hq⟩ : ∃ q, q = p + x := ⟨_, rfl⟩
                  have hwq : IntKind.i64.wrap ((p : Int) + (x : Int)) = (q : Int) := by rw [IntKind.wrap_i64]; have := Hm.out; omega
                  have hAtx := Hat.out x hx16
                  rw [← hq] at hown hpx hAtx
                  have Hq := Lib.hid hq
                  clear hq
                  by_cases hqm : q < m
                  · have hAt := hAtx hqm
                    obtain ⟨A2, c2, rfl, hc2, _⟩ := own_form hown
                    have hr0 := hC.txt
                    obtain ⟨bb, o, hAe, hbb, htx⟩ := hC.txt.pos (by omega)
                    obtain ⟨y, hy⟩ : ∃ y, y = at0 b q := ⟨_, rfl⟩
                    obtain ⟨sx, hsx⟩ : ∃ y, y = at0 s x := ⟨_, rfl⟩
                    have cb : wr.cell? ⟨bb, o + q, none⟩ = some (.int .u8 (y.toNat : Int)) := htx q _ (by rw [List.getElem?_map, at0_of (by rw [Hb.out]; exact hqm), hy]; rfl)
                    have cs : wr.cell? ⟨gS, x, none⟩ = some (.int .u8 (sx.toNat : Int)) := hS.cell (by rw [hsx]; exact at0_of (by rw [Hsl.out]; exact hx16))
                    have hbx := b_xor y sx
                    have HT := Lib.hid (show (U.take (q + 1)).map bv = (U.take q).map bv ++ [.int .u8 ((y ^^^ sx).toNat : Int)] by rw [take_more (by rw [HUl.out]; exact hqm), hAt, hy, hsx])
                    have hHm := Hm.out
                    have q0 : 0 ≤ (q : Int) := by omega
                    have q9 : (q : Int) < (m : Int) := by omega
                    have ho1 := own_below_ hown (c_alloc (c_drew (c_refl wr)) (.cells #[.int .u8 ((y ^^^ sx).toNat : Int)] 5))
                    have hC1 := hC.drew.alloc (.cells #[.int .u8 ((y ^^^ sx).toNat : Int)] 5)
                    have hS1 := hS.drew.alloc (.cells #[.int .u8 ((y ^^^ sx).toNat : Int)] 5)
                    have Hown := Lib.hid hown
                    have Hqm := Lib.hid hqm
                    have Hx16 := Lib.hid hx16
                    have Hne := Lib.hid hne
                    have hbb2 : bb < wr.drew.heap.size := Nat.lt_of_lt_of_le hbb hC.bel.size
                    have hgS2 : gS < wr.drew.heap.size := hS.lt
                    have hS1c : (wr.drew.alloc (.cells #[.int .u8 ((y ^^^ sx).toNat : Int)] 5)).cell? ⟨bb, o + q, none⟩ = some (.int .u8 (y.toNat : Int)) ∧ (wr.drew.alloc (.cells #[.int .u8 ((y ^^^ sx).toNat : Int)] 5)).cell? ⟨gS, x, none⟩ = some (.int .u8 (sx.toNat : Int)) :=
                      ⟨(World.cell?_alloc_lt _ _ _ hbb2).trans cb, (World.cell?_alloc_lt _ _ _ hgS2).trans cs⟩
                    subst hAe
                    clear hown hC hS hAt hAtx hy hsx htx hne hr0 hx16 hqm
                    generalize y ^^^ sx = z at *
                    go_wp2_with fail
                    refine beginT (fun wx => wx.cell? ⟨bb, o + q, none⟩ = some (.int .u8 (y.toNat : Int)) ∧ wx.cell? ⟨gS, x, none⟩ = some (.int .u8 (sx.toNat : Int))) 15 (by kernel_rfl) ?_
                    have hS := And.intro (show wr.drew.cell? ⟨bb, o + q, none⟩ = some (.int .u8 (y.toNat : Int)) from cb) (show wr.drew.cell? ⟨gS, x, none⟩ = some (.int .u8 (sx.toNat : Int)) from cs)
                    refine takeD 0 (some 79) (.slice A2 q c2) rfl rfl (by kernel_rfl) (by kernel_rfl) (by kernel_rfl) (by kernel_rfl) (fun _ _ _ h => h) (Or.inl ⟨by kernel_rfl, fun wx hSw => by go_simp⟩) hS ?_
                    simp only [Act.put, List.setIfInBounds_toArray, List.set_cons_zero, List.set_cons_succ]
                    refine takeD 1 (some 80) (.slice (some ⟨bb, o, none⟩) m c) rfl rfl (by kernel_rfl) (by kernel_rfl) (by kernel_rfl) (by kernel_rfl) (fun _ _ _ h => h) (Or.inl ⟨by kernel_rfl, fun wx hSw => by go_simp⟩) hS ?_
                    simp only [Act.put, List.setIfInBounds_toArray, List.set_cons_zero, List.set_cons_succ]
                    refine takeD 2 (some 81) (.int .u64 (j : Int)) rfl rfl (by kernel_rfl) (by kernel_rfl) (by kernel_rfl) (by kernel_rfl) (fun _ _ _ h => h) (Or.inl ⟨by kernel_rfl, fun wx hSw => by go_simp⟩) hS ?_
                    simp only [Act.put, List.setIfInBounds_toArray, List.set_cons_zero, List.set_cons_succ]
                    refine takeD 3 (some 82) (.int .i64 (j : Int)) rfl rfl (by kernel_rfl) (by kernel_rfl) (by kernel_rfl) (by kernel_rfl) (fun _ _ _ h => h) (Or.inl ⟨by kernel_rfl, fun wx hSw => by go_simp⟩) hS ?_
                    simp only [Act.put, List.setIfInBounds_toArray, List.set_cons_zero, List.set_cons_succ]
                    refine takeD 4 (some 83) (.int .i64 (p : Int)) rfl rfl (by kernel_rfl) (by kernel_rfl) (by kernel_rfl) (by kernel_rfl) (fun _ _ _ h => h) (Or.inl ⟨by kernel_rfl, fun wx hSw => by go_simp⟩) hS ?_
                    simp only [Act.put, List.setIfInBounds_toArray, List.set_cons_zero, List.set_cons_succ]
                    refine takeD 5 (some 84) (.int .i64 (x : Int)) rfl rfl (by kernel_rfl) (by kernel_rfl) (by kernel_rfl) (by kernel_rfl) (fun _ _ _ h => h) (Or.inl ⟨by kernel_rfl, fun wx hSw => by go_simp⟩) hS ?_
                    simp only [Act.put, List.setIfInBounds_toArray, List.set_cons_zero, List.set_cons_succ]
                    refine takeD 6 (some 85) (.int .i64 (q : Int)) rfl rfl (by kernel_rfl) (by kernel_rfl) (by kernel_rfl) (by kernel_rfl) (fun _ _ _ h => h) (Or.inl ⟨by kernel_rfl, fun wx hSw => by go_simp⟩) hS ?_
                    simp only [Act.put, List.setIfInBounds_toArray, List.set_cons_zero, List.set_cons_succ]
                    refine takeD 7 (some 86) (.pointer (some ⟨bb, o + q, none⟩)) rfl rfl (by kernel_rfl) (by kernel_rfl) (by kernel_rfl) (by kernel_rfl) (fun _ _ _ h => h) (Or.inl ⟨by kernel_rfl, fun wx hSw => by go_simp⟩) hS ?_
                    simp only [Act.put, List.setIfInBounds_toArray, List.set_cons_zero, List.set_cons_succ]
                    refine takeD 8 (some 87) (.int .u8 (y.toNat : Int)) rfl rfl (by kernel_rfl) (by kernel_rfl) (by kernel_rfl) (by kernel_rfl) (fun _ _ _ h => h) (Or.inl ⟨by kernel_rfl, fun wx hSw => by have h := hSw.1; go_simp⟩) hS ?_
                    simp only [Act.put, List.setIfInBounds_toArray, List.set_cons_zero, List.set_cons_succ]
                    refine takeD 9 (some 88) (.int .i64 (x : Int)) rfl rfl (by kernel_rfl) (by kernel_rfl) (by kernel_rfl) (by kernel_rfl) (fun _ _ _ h => h) (Or.inl ⟨by kernel_rfl, fun wx hSw => by go_simp⟩) hS ?_
                    simp only [Act.put, List.setIfInBounds_toArray, List.set_cons_zero, List.set_cons_succ]
                    refine takeD 10 (some 89) (.pointer (some ⟨gS, x, none⟩)) rfl rfl (by kernel_rfl) (by kernel_rfl) (by kernel_rfl) (by kernel_rfl) (fun _ _ _ h => h) (Or.inl ⟨by kernel_rfl, fun wx hSw => by go_simp⟩) hS ?_
                    simp only [Act.put, List.setIfInBounds_toArray, List.set_cons_zero, List.set_cons_succ]
                    refine takeD 11 (some 90) (.int .u8 (sx.toNat : Int)) rfl rfl (by kernel_rfl) (by kernel_rfl) (by kernel_rfl) (by kernel_rfl) (fun _ _ _ h => h) (Or.inl ⟨by kernel_rfl, fun wx hSw => by have h := hSw.2; go_simp⟩) hS ?_
                    simp only [Act.put, List.setIfInBounds_toArray, List.set_cons_zero, List.set_cons_succ]
                    refine takeD 12 (some 91) (.int .u8 (z.toNat : Int)) rfl rfl (by kernel_rfl) (by kernel_rfl) (by kernel_rfl) (by kernel_rfl) (fun _ _ _ h => h) (Or.inl ⟨by kernel_rfl, fun wx hSw => by go_simp⟩) hS ?_
                    simp only [Act.put, List.setIfInBounds_toArray, List.set_cons_zero, List.set_cons_succ]
                    refine oneT 13 (by kernel_rfl) rfl (fun K hK => ?_)
                    go_simp
                    refine hK.out _ _ (fun _ => hS1c) ?_
                    clear hK K
                    refine oneT 14 (by kernel_rfl) rfl (fun K hK => ?_)
                    refine step_append_at (by kernel_rfl) (some 93) rfl (.tmp 79) (.tmp 92) _ rfl (w.heap.size + 2) 5 i0 _ 1 Tryd.underlying24 hi0 hz0 hz1 hz2 rfl (.slice A2 q c2) q _ rfl ho1 (wr.heap.size + 1) (some ⟨wr.heap.size, 0, none⟩) 1 1 [.int .u8 (z.toNat : Int)] rfl (Rd.new wr.drew 5 #[.int .u8 (z.toNat : Int)]) (by simp [Value.oneCell']) (by simp only [maxLen]; omega) (by omega) hC1.size ?_
                    intro v4 w4 hown4 hgr4 hat4
                    simp only [Act.put, List.setIfInBounds_toArray, List.set_cons_zero, List.set_cons_succ]
                    refine hK.out _ _ (fun _ => ⟨(World.cell?_of_block (hgr4.block bb (Nat.lt_of_lt_of_le hbb2 (al0 _ _)) (fun e => by have := (Hown.out.lt bb e.symm).1; omega))).trans hS1c.1, (World.cell?_of_block (hgr4.block gS hS1.lt (fun e => Hne.out gS e.symm rfl))).trans hS1c.2⟩) ?_
                    clear hK K
                    refine oneT 15 (by kernel_rfl) rfl (fun K hK => ?_)
                    go_simp
                    refine hK.out _ _ (fun h => absurd rfl h) ?_
                    clear hK K
                    refine doneT (by kernel_rfl) ?_ _
                    clear cb cs hbx hS
                    go_wp2_with fail
                    rw [← HT.out] at hown4
                    have hC4 := hC1.grown hgr4 (fun g hg => (Hown.out.lt g hg).1)
                    have hS4 : ArrB w4 gS 51 s := hS1.of (hgr4.block gS hS1.lt (fun e => Hne.out gS e.symm rfl))
                    refine ⟨⟨x + 1, by have := Hx16.out; omega, by have := Hq.out; have := Hqm.out; omega, by go_num, by rw [show p + (x + 1) = q + 1 by have := Hq.out; omega]; exact hown4, hC4, hS4, fun g hg => ?_⟩, by have := Hx16.out; simp [intOf]; omega⟩
                    rcases hat4 with h | h
                    · exact Hne.out g (h ▸ hg)
                    · have hg2 : (wr.drew.alloc (.cells #[.int .u8 (z.toNat : Int)] 5)).heap.size = g := Option.some.inj (h.symm.trans hg)
                      rw [← hg2]
                      exact Nat.ne_of_gt hS1.lt
                  · obtain rfl : q = m := by omega
                    have Hx16 := Lib.hid hx16
                    have hjj : IntKind.u64.wrap ((j : Int) + 1) = ((j + 1 : Nat) : Int) := by rw [IntKind.wrap_u64]; have := (HN.out j Hlt.out).2.2; omega
                    have HT := Lib.hid (show U.take (16 * (j + 1)) = U.take q by
                      rw [List.take_of_length_le (by rw [HUl.out]; have := Hq.out; have := Hp.out; omega), List.take_of_length_le (by rw [HUl.out]; exact Nat.le_refl _)])
                    have Htl := Lib.hid (show (U.take q).length = q by rw [List.length_take, HUl.out]; omega)
                    clear hqm hAtx hx16
                    go_wp2_with fail
                    exact ⟨⟨j + 1, Hlt.out, by go_num, by rw [HT.out, Htl.out]; exact hown, hC⟩, by have := Hlt.out; simp [intOf]; omega⟩
                · obtain rfl : x = 16 := by omega
                  rw [show ((16 : Nat) : Int) = 16 from rfl]
                  have hjj : IntKind.u64.wrap ((j : Int) + 1) = ((j + 1 : Nat) : Int) := by rw [IntKind.wrap_u64]; have := (HN.out j Hlt.out).2.2; omega
                  have HT := Lib.hid (show 16 * (j + 1) = p + 16 by have := Hp.out; omega)
                  have Htl := Lib.hid (show (U.take (p + 16)).length = p + 16 by rw [List.length_take, HUl.out]; omega)
                  clear hx16
                  go_wp2_with fail
                  exact ⟨⟨j + 1, Hlt.out, by go_num, by rw [HT.out, Htl.out]; exact hown, hC⟩, by have := Hlt.out; simp [intOf]; omega⟩
    · obtain rfl : j = N := by omega
      rw [List.take_of_length_le (by rw [HUl.out]; exact HN2.out), HUl.out] at hown
      obtain ⟨A0, c0, rfl, _, _⟩ := own_form hown
      go_wp2_with fail
      exact bodyPost_ret (results_tmp2 rfl _ _ _) rfl ⟨A0, c0, rfl, own_base hown (by omega), hC.bel⟩

end Go.Proofs.YtajbaaamhddgiaaDoor

