/-
  THE STREAM AS FUNCTIONS ON BYTES (a counter's block, the first j blocks of a text turned), and the CONTRACT of the program's counted.
-/
import Derived.Test.YtbkdlmneidboaaaAesF
set_option linter.unusedVariables false
namespace Go.Proofs.Ytbkdlmneidboaaa
open Go.RowKit

/-- copy into a row that is known whole: one step of a region that draws its order -/
theorem step_copy_row {P : Program} {ops : Array Oper} {o : Oper} {a : Act} {w : World} {K : Act → World → Prop} {Q : Exit → Act → World → Prop} {E : Prop} (hgd : o.guard = none) (d s : Operand) (dT sT : TypeId)
    (ho : o.op = .call { callee := .builtin .copy, args := #[d, s], argTypes := #[dT, sT] }) (elem : TypeId) (hu : P.underlying dT = some (.slice elem)) (hsz : (P.info? elem).map (·.size) = some 1)
    (g off : Nat) (ad : Addr) (dLen dCap sLen sCap : Nat) (hd : a.eval d = .slice (some ⟨g, off, none⟩) dLen dCap) (hs : a.eval s = .slice (some ad) sLen sCap)
    (cur : List Value) (t : TypeId) (hg : w.heap[g]? = some (.cells cur.toArray t (0, 0))) (cs : List Value) (m : Nat) (hm : cs.length = m) (hn : m = Nat.min sLen dLen)
    (hsrc : ∀ j v, cs[j]? = some v → w.cell? (ad.add j) = some v)
    (hfit : off + cs.length ≤ cur.length) (h1 : ∀ v ∈ cs, v.oneCell' = true)
    (h : K (a.put o.dst (.int .i64 (m : Int))) (w.setRow g (splice cur off cs).toArray)) :
    if Region.wanted o (yielded ops a.tmps) = true then Oper.wp P o a w K Q else E := by
  subst hm
  have hw : Region.wanted o (yielded ops a.tmps) = true := by simp [Region.wanted, hgd]
  rw [if_pos hw]
  have hrun := run_copy_row (P := P) w dT sT o.type elem g off dLen dCap ad sLen sCap cur.toArray t cs hu hsz hg hn hsrc (by simpa using hfit) h1
  have e : (cur.toArray.toList.take off ++ cs ++ cur.toArray.toList.drop (off + cs.length)).toArray = (splice cur off cs).toArray := by simp [splice]
  rw [e] at hrun
  unfold Oper.wp execOp
  simp only [ho, resolve, invoke, builtin, Sem.run_bind, Sem.run_pure, Result.andThen_ok, List.map_toArray, List.map_cons, List.map_nil, hd, hs, hrun]
  exact h

/-- what is encrypted for a counter -/
def cinU (n : List UInt8) (c : Nat) : List UInt8 := n ++ be 4 c
theorem cinU_len {n : List UInt8} (h : n.length = 12) (c : Nat) : (cinU n c).length = 16 := by simp [cinU, h, be_length]
/-- a chunk from p on turned by a stream -/
def xorAt (ys : List UInt8) (p : Nat) (s : List UInt8) : List UInt8 := (List.range ys.length).map fun i => if p ≤ i ∧ i < p + 16 then at0 ys i ^^^ at0 s (i - p) else at0 ys i
theorem xorAt_len (ys : List UInt8) (p : Nat) (s : List UInt8) : (xorAt ys p s).length = ys.length := by simp [xorAt]
/-- the first j blocks turned -/
def ctrTo (k n : List UInt8) (from_ : Nat) (b : List UInt8) : Nat → List UInt8
  | 0 => b
  | j + 1 => xorAt (ctrTo k n from_ b j) (16 * j) (encU k (cinU n (from_ + j)))
theorem ctrTo_len (k n : List UInt8) (f : Nat) (b : List UInt8) : ∀ j, (ctrTo k n f b j).length = b.length
  | 0 => rfl
  | j + 1 => by rw [ctrTo, xorAt_len, ctrTo_len]

theorem info12 : (Try.prog.info? 25).map (·.size) = some 12 := by kernel_rfl

theorem be4_list (c : Nat) : be 4 c = [UInt8.ofNat (c / 256 ^ 3), UInt8.ofNat (c / 256 ^ 2), UInt8.ofNat (c / 256 ^ 1), UInt8.ofNat c] := by
  simp [be, Nat.div_div_eq_div_mul]

theorem build4 (x0 x1 x2 x3 : UInt8) (w : World) :
    (Instr.build 93 #[(0, bv x0), (1, bv x1), (2, bv x2), (3, bv x3)]).run Try.prog w = .ok (.agg ([x0, x1, x2, x3].map bv).toArray) w := by
  refine run_build w _ _ _ ?_
  obtain ⟨i0, hi0, hz0, hz1, hz2⟩ := info_parts (show (Try.prog.info? 93).map (fun i => (i.zero, i.size, i.bytes)) = some (some (.agg #[.int .u8 0, .int .u8 0, .int .u8 0, .int .u8 0]), 4, 4) by kernel_rfl)
  obtain ⟨i1, hi1, hy0, hy1, hy2⟩ := info_parts byteInfo
  unfold Program.built
  simp [hi0, hz0, Try.underlying93, hi1, hy1, Instr.fill, bv, Value.cells]

set_option maxRecDepth 100000 in
set_option maxHeartbeats 800000 in
theorem counted_any (n : List UInt8) (c : Nat) (w : World) (hn : n.length = 12) (hc : c < 4294967296) :
    Calls Try.prog 42 #[.agg (n.map bv).toArray, .int .u32 (c : Int)] w fun e w' => e = .returned (.agg ((cinU n c).map bv).toArray) ∧ Below w.heap.size w w' := by
  have Hn := Lib.hid hn
  have c0 : (0 : Int) ≤ (c : Int) := by omega
  have c1 : (c : Int) < 4294967296 := by omega
  go_enter Try.func42, Try.ntmps42
  go_wp2_with fail
  have e3 : (c : Int) / 16777216 = ((UInt8.ofNat (c / 256 ^ 3)).toNat : Int) := by rw [UInt8.toNat_ofNat']; omega
  have e2 : (c : Int) / 65536 % 256 = ((UInt8.ofNat (c / 256 ^ 2)).toNat : Int) := by rw [UInt8.toNat_ofNat']; omega
  have e1 : (c : Int) / 256 % 256 = ((UInt8.ofNat (c / 256 ^ 1)).toNat : Int) := by rw [UInt8.toNat_ofNat']; omega
  have e0 : (c : Int) % 256 = ((UInt8.ofNat c).toNat : Int) := by rw [UInt8.toNat_ofNat']; omega
  rw [e3, e2, e1, e0]
  refine wp_gen (fun wx => ArrB wx w.heap.size 25 n ∧ ArrB wx (w.heap.size + 1) 23 zero16 ∧ ArrB wx (w.heap.size + 1 + 1) 23 zero16 ∧ ArrB wx (w.heap.size + 1 + 1 + 1) 93 (be 4 c) ∧ Below w.heap.size w wx)
    ⟨(((ArrB.mk_ w _ _ n rfl rfl).alloc _).alloc _).alloc _, ((ArrB.mk_ _ _ _ zero16 (by simp) rfl).alloc _).alloc _, (ArrB.mk_ _ _ _ zero16 (by simp) rfl).alloc _, ArrB.mk_ _ _ _ _ (by simp) (by rw [be4_list]; rfl), ((((Below.refl _ _).alloc (Nat.le_refl _) _).alloc (al0 _ _) _).alloc (by simp; omega) _).alloc (by simp; omega) _⟩ ?_
  rintro w1 ⟨g0, g1, g2, g3, hB⟩
  clear e0 e1 e2 e3
  generalize hB0 : w.heap.size = B0 at *
  go_region_held3 (fun _ => True) (trivial)
    (first
      | (refine step_copy_row rfl (.tmp 19) (.tmp 20) 27 27 rfl 5 Try.underlying27 byteSize (B0 + 1 + 1) 0 ⟨B0, 0, none⟩ 16 16 12 12 rfl rfl (zero16.map bv) 23 g2.drew.at_ (n.map bv) 12 (by simp [Hn.out]) rfl (fun j v hv => by rw [Addr.add_lit]; exact g0.drew.range j v hv) (by simp [Hn.out, zero16]) (one_bv n) ?_; rw [splice_bytes])
      | (refine step_copy_row rfl (.tmp 22) (.tmp 23) 27 27 rfl 5 Try.underlying27 byteSize (B0 + 1 + 1) 12 ⟨B0 + 1 + 1 + 1, 0, none⟩ 4 4 4 4 rfl rfl ((splice zero16 0 n).map bv) 23 (g2.drew.row _).at_ ((be 4 c).map bv) 4 (by simp [be_length]) rfl (fun j v hv => by rw [Addr.add_lit]; exact (g3.drew.rowFar (by omega) _).range j v hv) (by simp [Hn.out, zero16, splice, be_length]) (one_bv _) ?_; rw [splice_bytes]))
  have es : splice (splice zero16 0 n) 12 (be 4 c) = cinU n c := by
    have hz : zero16 = List.replicate 12 0 ++ List.replicate 4 0 := rfl
    have h1 : splice zero16 0 n = n ++ List.replicate 4 0 := by
      rw [hz]
      have := splice_in (α := UInt8) [] (List.replicate 12 0 ++ List.replicate 4 0) n (by simp [Hn.out])
      simp only [List.nil_append, List.length_nil] at this
      rw [this, Hn.out, List.drop_left' (by simp)]
    rw [h1]
    have := splice_in n (List.replicate 4 0) (be 4 c) (by simp [be_length])
    rw [Hn.out] at this
    rw [this]
    simp [be_length, cinU]
  rw [es]
  have Hib := Lib.hid (size16 (cinU_len Hn.out c))
  have Hsz := Lib.hid (same16 (cinU_len Hn.out c) zero16_len)
  have k2 := (g2.drew.row (splice zero16 0 n)).row (cinU n c)
  have k1 := (g1.drew.rowFar (show B0 + 1 ≠ B0 + 1 + 1 by omega) ((splice zero16 0 n).map bv).toArray).rowFar (show B0 + 1 ≠ B0 + 1 + 1 by omega) ((cinU n c).map bv).toArray
  have hB2 := below_setRow (below_setRow hB.drew (show B0 ≤ B0 + 1 + 1 by omega) ((splice zero16 0 n).map bv).toArray) (show B0 ≤ B0 + 1 + 1 by omega) ((cinU n c).map bv).toArray
  generalize (w1.drew.setRow (B0 + 1 + 1) ((splice zero16 0 n).map bv).toArray).setRow (B0 + 1 + 1) ((cinU n c).map bv).toArray = w2 at *
  clear g0 g1 g2 g3 hB es
  generalize hq : cinU n c = q at *
  have Hq := Lib.hid hq
  clear hq
  go_wp2_with (first
    | ((with_reducible show wpList _ _ _ (⟨some 25, _, _, _, _, _⟩ :: _) _ _); refine wpList_load_row rfl 23 (.tmp 5) rfl (B0 + 1 + 1) rfl 23 (q.map bv).toArray (0, 0) _ k2 Try.underlying23 rfl Hib.out ?_)
    | ((with_reducible show wpList _ _ _ (⟨none, Op.store 23 _ _, _, _, _, _⟩ :: _) _ _); refine wpList_store_row rfl 23 (.tmp 4) (.tmp 25) rfl (B0 + 1) (q.map bv).toArray rfl rfl 23 _ k1 Hib.out Hsz.out (one_bvA q) ?_))
  exact bodyPost_ret (results_cell_row rfl _ _ (B0 + 1) 23 _ (0, 0) _ rfl (k1.row q) Try.underlying23 rfl Hib.out) rfl ⟨by rw [Hq.out], by rw [hB0]; exact below_setRow hB2 (Nat.le_succ B0) _⟩

end Go.Proofs.Ytbkdlmneidboaaa
