import Derived.Test.YtbiijdboolpaeaaDoorRows
import Derived.WalkKit
import Derived.Maps.AppendAt
import Derived.Deep.AppendLies
import Derived.Deep.Draws
import Derived.Deep.QuietTactic
import Derived.BigQuiet
import Derived.Lib.Hide
import Derived.Deep.WholeRow
import Derived.BigRegion
import Derived.Laws.Rows
import Derived.Deep.MidRow
set_option linter.unusedVariables false
namespace Go.Proofs.YtbiijdboolpaeaaDoor
open Go.RowKit
def bv (x : UInt8) : Value := .int .u8 (x.toNat : Int)
def qv (x : Nat) : Value := .int .u64 (x : Int)
theorem bv_def (x : UInt8) : bv x = .int .u8 (x.toNat : Int) := rfl
structure Rd (w : World) (B : Nat) (A : Option Addr) (n : Nat) (xs : List Value) : Prop where
 len : xs.length = n
 pos : 0 < n → ∃ b o, A = some ⟨b, o, none⟩ ∧ b < B ∧ ∀ j u, xs[j]? = some u → w.cell? ⟨b, o + j, none⟩ = some u
section
variable {w w' : World} {B B' n : Nat} {A : Option Addr} {xs : List Value}
theorem Rd.zero (w : World) (B : Nat) (A : Option Addr) : Rd w B A 0 [] := ⟨rfl, fun h => absurd h (by omega)⟩
theorem Rd.keep (h : Rd w B A n xs) (hk : ∀ p : Addr, p.block < B → w'.cell? p = w.cell? p) : Rd w' B A n xs :=
 ⟨h.len, fun hn => by
  obtain ⟨b, o, e, hb, hc⟩ := h.pos hn
  exact ⟨b, o, e, hb, fun j u hu => (hk _ hb).trans (hc j u hu)⟩⟩
theorem Rd.keepAt (h : Rd w B A n xs) (hk : ∀ ad, A = some ad → ∀ p : Addr, p.block = ad.block → w'.cell? p = w.cell? p) : Rd w' B A n xs :=
 ⟨h.len, fun hn => by
  obtain ⟨b, o, rfl, hb, hc⟩ := h.pos hn
  exact ⟨b, o, rfl, hb, fun j u hu => (hk _ rfl ⟨b, o + j, none⟩ rfl).trans (hc j u hu)⟩⟩
theorem Rd.more (h : Rd w B A n xs) (hB : B ≤ B') : Rd w B' A n xs :=
 ⟨h.len, fun hn => by
  obtain ⟨b, o, e, hb, hc⟩ := h.pos hn
  exact ⟨b, o, e, by omega, hc⟩⟩
theorem Rd.below (h : Rd w B A n xs) (hb : Below B w w') : Rd w' B A n xs := h.keep fun _ hp => hb.cell hp
theorem Rd.drew (h : Rd w B A n xs) : Rd w.drew B A n xs := ⟨h.len, h.pos⟩
theorem Rd.drewN (h : Rd w B A n xs) (k : Nat) : Rd (w.drewN k) B A n xs := ⟨h.len, h.pos⟩
theorem Rd.alloc (h : Rd w B A n xs) (hB : B ≤ w.heap.size) (o : Obj) : Rd (w.alloc o) B A n xs := h.keep fun p hp => World.cell?_alloc_lt w o p (by omega)
theorem Rd.setCell (h : Rd w B A n xs) {p : Addr} (hB : B ≤ p.block) (u : Value) : Rd (w.setCell p u) B A n xs :=
 h.keep fun q hq => World.cell?_setCell_other w p q u (fun e => by subst e; omega)
theorem Rd.grown (h : Rd w B A n xs) {row : Option Nat} (hg : w.grownBy w' row) (hB : B ≤ w.heap.size) (hr : ∀ g, row = some g → B ≤ g) : Rd w' B A n xs :=
 h.keep fun p hp => World.cell?_of_block (hg.block p.block (by omega) (fun e => by have := hr _ e.symm; omega))
theorem Rd.at_ {k : Nat} (h : Rd w B A n xs) (hk : k < n) : ∃ b o, A = some ⟨b, o, none⟩ ∧ b < B ∧ ∀ j u, xs[j]? = some u → w.cell? ⟨b, o + j, none⟩ = some u := h.pos (by omega)
theorem Rd.cut (h : Rd w B A n xs) {k cap : Nat} (hk : k ≤ n) (hc : n ≤ cap) : Rd w B (if cap = k then A else A.map (·.add k)) (n - k) (xs.drop k) := by
 refine ⟨by rw [List.length_drop, h.len], fun hn => ?_⟩
 obtain ⟨b, o, rfl, hb, hcell⟩ := h.pos (by omega)
 rw [if_neg (by omega)]
 refine ⟨b, o + k, by simp [Addr.add_lit], hb, fun j u hu => ?_⟩
 rw [Nat.add_assoc]
 exact hcell _ u (by rw [← hu, List.getElem?_drop])
theorem Rd.take (h : Rd w B A n xs) {k : Nat} (hk : k ≤ n) : Rd w B A k (xs.take k) := by
 refine ⟨by rw [List.length_take, h.len]; omega, fun hn => ?_⟩
 obtain ⟨b, o, e, hb, hc⟩ := h.pos (by omega)
 refine ⟨b, o, e, hb, fun j u hu => hc j u ?_⟩
 rw [List.getElem?_take] at hu
 split at hu
 ·
  exact hu
 ·
  cases hu
theorem Rd.new (w : World) (t : TypeId) (xs : Array Value) : Rd (w.alloc (.cells xs t)) (w.heap.size + 1) (some ⟨w.heap.size, 0, none⟩) xs.size xs.toList :=
 ⟨by simp, fun _ => ⟨w.heap.size, 0, rfl, by omega, fun j u hu => by
  rw [cell_of_row _ w.heap.size (0 + j) xs t (0, 0) (heap_alloc_new w _), Nat.zero_add]
  simpa using hu⟩⟩
theorem Rd.mk_ (w : World) (t : TypeId) (xs : Array Value) {b B n : Nat} {l : List Value} (hb : w.heap.size = b) (hB : b < B) (hn : xs.size = n) (hl : xs.toList = l) : Rd (w.alloc (.cells xs t)) B (some ⟨b, 0, none⟩) n l := by
 subst hb hn hl
 exact (Rd.new w t xs).more hB
theorem Rd.of_own {base : Nat} {e : TypeId} {c : Nat} (h : w.ownsRow base e 1 (.slice A n c) n xs) : Rd w w.heap.size A n xs := by
 refine ⟨by simpa using h.1, fun hn => ?_⟩
 obtain ⟨g, cap, hv, _, hlt⟩ := h.form hn
 have hA : A = some ⟨g, 0, none⟩ := by injection hv
 subst hA
 refine ⟨g, 0, rfl, hlt, fun j u hu => ?_⟩
 have := h.cells (g := g) rfl j u hu
 rwa [Addr.add_lit] at this
end
theorem al0 (w : World) (o : Obj) : w.heap.size ≤ (w.alloc o).heap.size := by simp
theorem own_form {w : World} {base : Nat} {e : TypeId} {v : Value} {n : Nat} {xs : List Value} (h : w.ownsRow base e 1 v n xs) : ∃ A c, v = .slice A n c ∧ n ≤ c ∧ xs.length = n := by
 have hl := h.1
 rcases h.2 with ⟨rfl, rfl⟩ | ⟨g, cap, cur, rfl, _, _, hc, _⟩
 ·
  exact ⟨_, _, rfl, by omega, by omega⟩
 ·
  exact ⟨_, _, rfl, hc, by omega⟩
theorem byteInfo : (Tryd.prog.info? 5).map (fun i => (i.zero, i.size, i.bytes)) = some (some (.int .u8 0), 1, 1) := by kernel_rfl
theorem textInfo : (Tryd.prog.info? 24).map (fun i => (i.zero, i.size, i.bytes)) = some (some (.slice none 0 0), 1, 24) := by kernel_rfl
section
variable {P : Program} (w : World)
theorem run_append_rd (base : Nat) (t ty e : TypeId) (i : TypeInfo) (z : Value) (bytes : Nat) (ht : P.underlying t = some (.slice e)) (hi : P.info? e = some i) (hz : i.zero = some z)
  (hsize : i.size = 1) (hby : i.bytes = bytes) (hzs : z.cells.size = 1)
  (v : Value) (n : Nat) (xs : List Value) (hown : w.ownsRow base e 1 v n xs)
  (B : Nat) (A : Option Addr) (m c : Nat) (news : List Value) (hr : Rd w B A m news) (h1 : ∀ u ∈ news, u.oneCell' = true)
  (h63 : n + m ≤ maxLen) (hbytes : (n + m) * bytes ≤ 140737488355328) (hbase : base ≤ w.heap.size) :
  ∃ v' w', (Builtin.append_ #[t, t] ty #[v, .slice A m c]).run P w = .ok v' w' ∧ w'.ownsRow base e 1 v' (n + m) (xs ++ news) ∧ w.grownBy w' v.ownBlock ∧
   (v'.ownBlock = v.ownBlock ∨ v'.ownBlock = some w.heap.size) := by
 rcases A with _ | ad
 ·
  have hm : m = 0 := by
   rcases Nat.eq_zero_or_pos m with h0 | h0
   ·
    exact h0
   ·
    obtain ⟨b, o, h, _⟩ := hr.pos h0
    cases h
  subst hm
  have hn : news = [] := List.eq_nil_of_length_eq_zero hr.len
  subst hn
  refine ⟨v, w, ?_, by simpa using hown, World.grownBy.refl w _, .inl rfl⟩
  rcases hown.2 with ⟨rfl, rfl⟩ | ⟨g, cap, cur, rfl, _, _, hnc, _⟩
  ·
   simp [Builtin.append_, run_underlying ht, sizeOf, typeInfo, hi, Builtin.lenOf, Builtin.firstCells]
  ·
   simp [Builtin.append_, run_underlying ht, sizeOf, typeInfo, hi, Builtin.lenOf, Builtin.firstCells, hnc, storeCells]
 ·
  have hcells : ∀ j u, news[j]? = some u → w.cell? (ad.add j) = some u := by
   intro j u hu
   rcases Nat.eq_zero_or_pos m with h0 | h0
   ·
    subst h0
    have hn : news = [] := List.eq_nil_of_length_eq_zero hr.len
    subst hn
    simp at hu
   ·
    obtain ⟨b, o, h, _, hc⟩ := hr.pos h0
    injection h with h
    subst h
    rw [Addr.add_lit]
    exact hc j u hu
  obtain ⟨v', w', hrun, h2, h3, _, h5⟩ := run_append_own_at (P := P) w base t ty e i z 1 bytes ht hi hz hsize hby hzs (by omega) v n xs hown ad m c news (by rw [hr.len]; omega) hcells h1 h63 hbytes hbase
  exact ⟨v', w', hrun, h2, h3, h5⟩
theorem wpList_append_rd {ops : Array Oper} {rest : List Oper} {o : Oper} {a : Act} {Q : Exit → Act → World → Prop} (hgd : Region.wanted o (yielded ops a.tmps) = true) (s x : Operand) (t : TypeId)
  (ho : o.op = .call { callee := .builtin .append, args := #[s, x], argTypes := #[t, t] })
  (base : Nat) (e : TypeId) (i : TypeInfo) (z : Value) (bytes : Nat) (ht : P.underlying t = some (.slice e)) (hi : P.info? e = some i) (hz : i.zero = some z)
  (hsize : i.size = 1) (hby : i.bytes = bytes) (hzs : z.cells.size = 1)
  (v : Value) (n : Nat) (xs : List Value) (hs : a.eval s = v) (hown : w.ownsRow base e 1 v n xs)
  (B : Nat) (A : Option Addr) (m c : Nat) (news : List Value) (hx : a.eval x = .slice A m c) (hr : Rd w B A m news) (h1 : ∀ u ∈ news, u.oneCell' = true)
  (h63 : n + m ≤ maxLen) (hbytes : (n + m) * bytes ≤ 140737488355328) (hbase : base ≤ w.heap.size)
  (h : ∀ v' w', w'.ownsRow base e 1 v' (n + m) (xs ++ news) → w.grownBy w' v.ownBlock → (v'.ownBlock = v.ownBlock ∨ v'.ownBlock = some w.heap.size) → wpList P ops Q rest (a.put o.dst v') w') : wpList P ops Q (o :: rest) a w := by
 refine wpList_step fun _ hK => ?_
 rw [if_pos hgd]
 obtain ⟨v', w', hrun, h2, h3, h4⟩ := run_append_rd (P := P) w base t o.type e i z bytes ht hi hz hsize hby hzs v n xs hown B A m c news hr h1 h63 hbytes hbase
 unfold Oper.wp execOp
 simp only [ho, resolve, invoke, builtin, Sem.run_bind, Sem.run_pure, Result.andThen_ok, List.map_toArray, List.map_cons, List.map_nil, hs, hx, hrun]
 exact hK _ _ (h v' w' h2 h3 h4)
end
theorem own_new (w : World) (base : Nat) (t : TypeId) (cs : Array Value) (hb : base ≤ w.heap.size) (hm : cs.size ≤ maxLen) :
  (w.alloc (.cells cs t)).ownsRow base t 1 (.slice (some ⟨w.heap.size, 0, none⟩) cs.size cs.size) cs.size cs.toList :=
 ⟨by simp, .inr ⟨w.heap.size, cs.size, cs, rfl, hb, heap_alloc_new w _, Nat.le_refl _, hm, by omega, by rw [Nat.mul_one]; exact List.take_of_length_le (by simp)⟩⟩
theorem own_below {w w' : World} {base : Nat} {e : TypeId} {size : Nat} {v : Value} {n : Nat} {xs : List Value} (h : w.ownsRow base e size v n xs) (hb : Below w.heap.size w w') : w'.ownsRow base e size v n xs :=
 h.kept (w' := w') (row := none) ⟨hb.os, hb.tape, hb.output, hb.size, fun i hi _ => hb.block i hi⟩ (by cases hv : v.ownBlock <;> simp)
theorem one_bv (l : List UInt8) : ∀ u ∈ l.map bv, u.oneCell' = true := by
 intro u hu
 obtain ⟨_, _, rfl⟩ := List.mem_map.1 hu
 rfl
def strOf (l : List UInt8) : ByteArray := ⟨l.toArray⟩
theorem run_convert_rd {P : Program} (w : World) (src e dst : TypeId) (hs : P.underlying src = some (.slice e)) (he : P.underlying e = some (.int .u8)) (hd : P.underlying dst = some .string)
  {B : Nat} {A : Option Addr} {n c : Nat} {l : List UInt8} (hr : Rd w B A n (l.map bv)) :
  (convert src dst (.slice A n c)).run P w = .ok (.string (strOf l)) w := by
 have hl : l.length = n := by have := hr.len; simpa using this
 rcases Nat.eq_zero_or_pos n with h0 | h0
 ·
  subst h0
  obtain rfl := List.eq_nil_of_length_eq_zero hl
  rcases A with _ | ad
  ·
   exact run_convert_bytes_nil w src e hs he 0 c dst hd
  ·
   rw [run_convert_bytes_string w src dst e _ 0 c hs he hd, run_bytesToString w ad 0 c [] (by simpa using run_loadCells_list (P := P) w ad [] (fun j v h => by simp at h))]
   rfl
 ·
  obtain ⟨b, o, rfl, _, hc⟩ := hr.pos h0
  have h := run_convert_bytes_arg (P := P) w src e hs he b o n c (l.map fun x => (x.toNat : Int)) (by simpa using hl) (fun i hi => by
   have hx : l[i]? = some l[i] := List.getElem?_eq_getElem (by omega)
   rw [hc i (bv l[i]) (by rw [List.getElem?_map, hx]; rfl)]
   simp [bv, List.getD, hx]) dst hd
  rw [h]
  congr 2
  unfold strOfNums strOf
  congr 1
  simp [Function.comp_def]
theorem strOf_list (a : List UInt8) : (strOf a).toList = a := by rw [ByteArray.toList_eq]; rfl

theorem tdQ (d : Nat) {P : Program} {ops : Array Oper} {Q : Exit → Act → World → Prop} {o : Op} {t p af gd} {rest : List Oper} {a : Act} {w : World} (h : wpList P ops Q (⟨some d, o, t, p, af, gd⟩ :: rest) a w) : wpList P ops Q (⟨some d, o, t, p, af, gd⟩ :: rest) a w := h
theorem tsQ (y : TypeId) {P : Program} {ops : Array Oper} {Q : Exit → Act → World → Prop} {u v : Operand} {t p af gd} {rest : List Oper} {a : Act} {w : World} (h : wpList P ops Q (⟨none, Op.store y u v, t, p, af, gd⟩ :: rest) a w) : wpList P ops Q (⟨none, Op.store y u v, t, p, af, gd⟩ :: rest) a w := h
def wv (x : UInt32) : Value := .int .u32 (x.toNat : Int)
theorem u32_lt (x : UInt32) : x.toNat < 4294967296 := x.toNat_lt
def rorU (x : UInt32) (k : Nat) : UInt32 := x >>> UInt32.ofNat k ||| x <<< UInt32.ofNat (32 - k)
theorem or_ror (x : UInt32) (k : Nat) (h1 : 1 ≤ k) (h2 : k ≤ 31) :
  bits .or .u32 ((x.toNat : Int) / 2 ^ k) ((x.toNat : Int) * 2 ^ (32 - k) % 4294967296) = ((rorU x k).toNat : Int) := by
 have hx := u32_lt x
 have e1 : (x.toNat : Int) / 2 ^ k = ((x.toNat / 2 ^ k : Nat) : Int) := by
  rw [Int.natCast_ediv, Int.natCast_pow]; rfl
 have e2 : (x.toNat : Int) * 2 ^ (32 - k) % 4294967296 = ((x.toNat * 2 ^ (32 - k) % 4294967296 : Nat) : Int) := by
  rw [Int.natCast_emod, Int.natCast_mul, Int.natCast_pow]; rfl
 rw [e1, e2, u32_or_nat _ _ (Nat.lt_of_le_of_lt (Nat.div_le_self _ _) hx) (Nat.mod_lt _ (by omega))]
 unfold rorU
 rw [UInt32.toNat_or, UInt32.toNat_shiftRight, UInt32.toNat_shiftLeft, UInt32.toNat_ofNat', UInt32.toNat_ofNat',
  Nat.mod_eq_of_lt (show k < 2 ^ 32 by omega), Nat.mod_eq_of_lt (show 32 - k < 2 ^ 32 by omega), Nat.mod_eq_of_lt (show k < 32 by omega), Nat.mod_eq_of_lt (show 32 - k < 32 by omega),
  Nat.shiftRight_eq_div_pow, Nat.shiftLeft_eq]
theorem w_add (a b : UInt32) : ((a.toNat : Int) + (b.toNat : Int)) % 4294967296 = ((a + b).toNat : Int) := by
 rw [UInt32.toNat_add]
 omega
theorem w_add4 (a b c d : UInt32) : ((a.toNat : Int) + b.toNat + c.toNat + d.toNat) % 4294967296 = ((a + b + c + d).toNat : Int) := by
 rw [UInt32.toNat_add, UInt32.toNat_add, UInt32.toNat_add]
 omega
theorem w_xor (a b : UInt32) : bits .xor .u32 (a.toNat : Int) (b.toNat : Int) = ((a ^^^ b).toNat : Int) := by
 rw [u32_xor_nat _ _ (u32_lt a) (u32_lt b), UInt32.toNat_xor]
theorem w_and (a b : UInt32) : bits .and .u32 (a.toNat : Int) (b.toNat : Int) = ((a &&& b).toNat : Int) := by
 rw [u32_and_nat _ _ (u32_lt a) (u32_lt b), UInt32.toNat_and]
theorem w_shr (a : UInt32) (k : Nat) (hk : k < 32) : (a.toNat : Int) / 2 ^ k = ((a >>> UInt32.ofNat k).toNat : Int) := by
 rw [UInt32.toNat_shiftRight, UInt32.toNat_ofNat', Nat.mod_eq_of_lt (show k < 2 ^ 32 by omega), Nat.mod_eq_of_lt hk, Nat.shiftRight_eq_div_pow, Int.natCast_ediv, Int.natCast_pow]
 rfl
theorem w_not (a : UInt32) : bits .xor .u32 (if IntKind.u32.signed = true then -1 else IntKind.u32.max) (a.toNat : Int) = ((~~~a).toNat : Int) := by
 have e : (if IntKind.u32.signed = true then (-1 : Int) else IntKind.u32.max) = (((4294967295 : UInt32).toNat : Nat) : Int) := rfl
 rw [e, w_xor]
 have e2 : (4294967295 : UInt32) ^^^ a = ~~~a := by
  apply UInt32.eq_of_toBitVec_eq
  exact BitVec.allOnes_xor
 rw [e2]
def ArrW (w : World) (g : Nat) (t : TypeId) (l : List UInt32) : Prop := w.heap[g]? = some (.cells (l.map wv).toArray t (0, 0))
section
variable {w w' : World} {g : Nat} {t : TypeId} {l : List UInt32}
theorem ArrW.lt (h : ArrW w g t l) : g < w.heap.size := by
 unfold ArrW at h
 exact (Array.getElem?_eq_some_iff.1 h).1
theorem ArrW.cell (h : ArrW w g t l) {i : Nat} {x : UInt32} (hx : l[i]? = some x) : w.cell? ⟨g, i, none⟩ = some (.int .u32 (x.toNat : Int)) := by
 unfold ArrW at h
 rw [cell_of_row w g i _ t (0, 0) h]
 simp [hx, wv]
theorem ArrW.frozen (h : ArrW w g t l) (i : Nat) : w.frozen? ⟨g, i, none⟩ = false := by
 unfold ArrW at h
 exact frozen_of_row w g i _ t h
theorem ArrW.new (w : World) (t : TypeId) (cs : Array Value) (l : List UInt32) (h : (l.map wv).toArray = cs) : ArrW (w.alloc (.cells cs t)) w.heap.size t l := by
 subst h
 exact heap_alloc_new w _
theorem ArrW.mk_ (w : World) (t : TypeId) (cs : Array Value) (l : List UInt32) {b : Nat} (hb : w.heap.size = b) (h : (l.map wv).toArray = cs) : ArrW (w.alloc (.cells cs t)) b t l := by
 subst hb
 exact ArrW.new w t cs l h
theorem ArrW.of (h : ArrW w g t l) (e : w'.heap[g]? = w.heap[g]?) : ArrW w' g t l := by unfold ArrW at h ⊢; rw [e]; exact h
theorem ArrW.drew (h : ArrW w g t l) : ArrW w.drew g t l := h.of rfl
theorem ArrW.drewN (h : ArrW w g t l) (n : Nat) : ArrW (w.drewN n) g t l := h.of rfl
theorem ArrW.alloc (h : ArrW w g t l) (o : Obj) : ArrW (w.alloc o) g t l := h.of (heap_alloc_old w o h.lt)
theorem ArrW.below {B : Nat} (h : ArrW w g t l) (hb : Below B w w') (hg : g < B) : ArrW w' g t l := h.of (hb.block g hg)
theorem ArrW.set_ (h : ArrW w g t l) (i : Nat) (x : UInt32) : ArrW (w.setCell ⟨g, i, none⟩ (.int .u32 (x.toNat : Int))) g t (l.set i x) := by
 unfold ArrW at h ⊢
 simp only [World.setCell, Array.getElem?_modify, h, Option.map_some]
 rw [List.map_set]
 simp [wv]
theorem ArrW.row (h : ArrW w g t l) (l' : List UInt32) : ArrW (w.setRow g (l'.map wv).toArray) g t l' := by
 unfold ArrW at h ⊢
 exact setRow_heap w g _ _ t _ h
theorem ArrW.rowFar {g' : Nat} (h : ArrW w g t l) (hne : g ≠ g') (cs : Array Value) : ArrW (w.setRow g' cs) g t l := h.of (setRow_other w g' g cs hne)
theorem below_setRow {B : Nat} {a w : World} (h : Below B a w) {g : Nat} (hg : B ≤ g) (cs : Array Value) : Below B a (w.setRow g cs) :=
 h.trans ⟨rfl, rfl, rfl, by simp [World.setRow], fun k hk => setRow_other w g k cs (by omega)⟩
theorem heap_new {w : World} {b : Nat} (hb : w.heap.size = b) (o : Obj) : (w.alloc o).heap[b]? = some o := by subst hb; exact heap_alloc_new w o
theorem one_wv (l : List UInt32) : ((l.map wv).toArray).all (·.oneCell') = true := by
 rw [Array.all_eq_true_iff_forall_mem]
 intro v hv
 obtain ⟨x, _, rfl⟩ := List.mem_map.1 (by simpa using hv)
 rfl
theorem ArrW.far (h : ArrW w g t l) {p : Addr} (hp : g ≠ p.block) (u : Value) : ArrW (w.setCell p u) g t l := h.of (Below.heap_setCell w p u g hp)
end
def RowC (w : World) (g : Nat) (t : TypeId) (cs : Array Value) : Prop := w.heap[g]? = some (.cells cs t (0, 0))
section
variable {w w' : World} {g : Nat} {t : TypeId} {cs : Array Value}
theorem RowC.at_ (h : RowC w g t cs) : w.heap[g]? = some (.cells cs t (0, 0)) := h
theorem RowC.lt (h : RowC w g t cs) : g < w.heap.size := by
 unfold RowC at h
 exact (Array.getElem?_eq_some_iff.1 h).1
theorem RowC.cell (h : RowC w g t cs) {i : Nat} {v : Value} (hv : cs[i]? = some v) : w.cell? ⟨g, i, none⟩ = some v := by
 unfold RowC at h
 rw [cell_of_row w g i _ t (0, 0) h]
 exact hv
theorem RowC.range (h : RowC w g t cs) : w.rangeAt g 0 cs.toList := fun j v hv => by
 rw [Nat.zero_add]
 exact h.cell (by simpa using hv)
theorem RowC.frozen (h : RowC w g t cs) (i : Nat) : w.frozen? ⟨g, i, none⟩ = false := frozen_of_row w g i _ t h
theorem RowC.new (w : World) (t : TypeId) (cs : Array Value) : RowC (w.alloc (.cells cs t)) w.heap.size t cs := heap_alloc_new w _
theorem RowC.mk_ (w : World) (t : TypeId) (cs : Array Value) {b : Nat} (hb : w.heap.size = b) : RowC (w.alloc (.cells cs t)) b t cs := by
 subst hb
 exact heap_alloc_new w _
theorem RowC.of (h : RowC w g t cs) (e : w'.heap[g]? = w.heap[g]?) : RowC w' g t cs := by unfold RowC at h ⊢; rw [e]; exact h
theorem RowC.drew (h : RowC w g t cs) : RowC w.drew g t cs := h.of rfl
theorem RowC.drewN (h : RowC w g t cs) (n : Nat) : RowC (w.drewN n) g t cs := h.of rfl
theorem RowC.alloc (h : RowC w g t cs) (o : Obj) : RowC (w.alloc o) g t cs := h.of (heap_alloc_old w o h.lt)
theorem RowC.below {B : Nat} (h : RowC w g t cs) (hb : Below B w w') (hg : g < B) : RowC w' g t cs := h.of (hb.block g hg)
theorem RowC.call (h : RowC w g t cs) (hb : Below w.heap.size w w') : RowC w' g t cs := h.below hb h.lt
theorem RowC.row (h : RowC w g t cs) (cs' : Array Value) : RowC (w.setRow g cs') g t cs' := setRow_heap w g _ _ t _ h
theorem RowC.rowFar {g' : Nat} (h : RowC w g t cs) (hne : g ≠ g') (cs' : Array Value) : RowC (w.setRow g' cs') g t cs := h.of (setRow_other w g' g cs' hne)
theorem RowC.far (h : RowC w g t cs) {p : Addr} (hp : g ≠ p.block) (u : Value) : RowC (w.setCell p u) g t cs := h.of (Below.heap_setCell w p u g hp)
theorem RowC.set_ (h : RowC w g t cs) (i : Nat) (v : Value) : RowC (w.setCell ⟨g, i, none⟩ v) g t (cs.setIfInBounds i v) := by
 unfold RowC at h ⊢
 simp only [World.setCell, Array.getElem?_modify, h, Option.map_some]
 simp
end
structure Ms (w0 w : World) (L : List (Nat × TypeId × Array Value)) : Prop where
 old : Below w0.heap.size w0 w
 rows : ∀ p ∈ L, RowC w p.1 p.2.1 p.2.2
section
variable {w0 w w' : World} {L : List (Nat × TypeId × Array Value)}
theorem Ms.nil (w : World) : Ms w w [] := ⟨Below.refl _ _, fun _ h => by cases h⟩
theorem Ms.call (h : Ms w0 w L) (hb : Below w.heap.size w w') : Ms w0 w' L := ⟨h.old.trans (hb.mono h.old.size), fun p hp => (h.rows p hp).call hb⟩
theorem below_drewN {B : Nat} {a w : World} (h : Below B a w) (n : Nat) : Below B a (w.drewN n) := h.trans ⟨rfl, rfl, rfl, Nat.le_refl _, fun _ _ => rfl⟩
theorem Ms.drewN (h : Ms w0 w L) (n : Nat) : Ms w0 (w.drewN n) L := ⟨below_drewN h.old n, fun p hp => (h.rows p hp).drewN n⟩
theorem Ms.drew (h : Ms w0 w L) : Ms w0 w.drew L := ⟨h.old.drew, fun p hp => (h.rows p hp).drew⟩
theorem Ms.box (h : Ms w0 w L) (t : TypeId) (cs : Array Value) : Ms w0 (w.alloc (.cells cs t)) ((w.heap.size, t, cs) :: L) :=
 ⟨h.old.alloc h.old.size _, fun p hp => by
  rcases List.mem_cons.1 hp with rfl | hp
  ·
   exact RowC.new _ _ _
  ·
   exact (h.rows p hp).alloc _⟩
theorem Ms.put (h : Ms w0 w L) (t : TypeId) (z cs : Array Value) : Ms w0 ((w.alloc (.cells z t)).setRow w.heap.size cs) ((w.heap.size, t, cs) :: L) :=
 ⟨below_setRow (h.old.alloc h.old.size _) h.old.size cs, fun p hp => by
  rcases List.mem_cons.1 hp with rfl | hp
  ·
   exact (RowC.new _ _ _).row cs
  ·
   exact ((h.rows p hp).alloc _).rowFar (Nat.ne_of_lt (h.rows p hp).lt) cs⟩
theorem Ms.get (h : Ms w0 w L) (i : Nat) {g : Nat} {t : TypeId} {cs : Array Value} (hi : L[i]? = some (g, t, cs)) : RowC w g t cs := h.rows _ (List.mem_of_getElem? hi)
end
theorem wpList_loadC {P : Program} {ops : Array Oper} {rest : List Oper} {o : Oper} {a : Act} {w : World} {Q : Exit → Act → World → Prop} (hgd : Region.wanted o (yielded ops a.tmps) = true) (ty : TypeId) (x : Operand) (ho : o.op = .load ty x)
  (g : Nat) (hx : a.eval x = .pointer (some ⟨g, 0, none⟩)) (t : TypeId) (cs : Array Value) (d : TypeDesc) (hg : RowC w g t cs)
  (hu : P.underlying ty = some d) (hd : (match d with | .struct _ | .array _ _ => true | _ => false) = true) (hi : (P.info? ty).map (·.size) = some cs.size)
  (h : wpList P ops Q rest (a.put o.dst (.agg cs)) w) : wpList P ops Q (o :: rest) a w := by
 refine wpList_step fun _ hK => ?_
 rw [if_pos hgd]
 exact wp_load_row ty x ho g hx t cs (0, 0) d hg hu hd hi (hK _ _ h)
theorem results_cell_two {P : Program} {fn : Func} {p q : Tmp} {ty : TypeId} (h : fn.results = #[.cell p ty, .tmp q]) (tmps : Array Value) (w : World) (g : Nat) (t : TypeId) (cs : Array Value) (d : TypeDesc)
  (hp : tmps.getD p undef = .pointer (some ⟨g, 0, none⟩)) (hg : RowC w g t cs)
  (hu : P.underlying ty = some d) (hd : (match d with | .struct _ | .array _ _ => true | _ => false) = true) (hi : (P.info? ty).map (·.size) = some cs.size) :
  (results fn tmps).run P w = .ok (.tuple #[.agg cs, tmps.getD q undef]) w := by
 have hp' : tmps[p]?.getD undef = .pointer (some ⟨g, 0, none⟩) := by simpa using hp
 simp [results, h, hp', asAddr, run_loadVar_row w g t ty cs (0, 0) d hg hu hd hi]
theorem results_cell_one {P : Program} {fn : Func} {p : Tmp} {ty : TypeId} (h : fn.results = #[.cell p ty]) (tmps : Array Value) (w : World) (g : Nat) (t : TypeId) (cs : Array Value) (d : TypeDesc)
  (hp : tmps.getD p undef = .pointer (some ⟨g, 0, none⟩)) (hg : RowC w g t cs)
  (hu : P.underlying ty = some d) (hd : (match d with | .struct _ | .array _ _ => true | _ => false) = true) (hi : (P.info? ty).map (·.size) = some cs.size) :
  (results fn tmps).run P w = .ok (.agg cs) w := results_cell_row h tmps w g t cs (0, 0) d hp hg hu hd hi
theorem step_callF {P : Program} {w : World} {ops : Array Oper} {o : Oper} {a : Act} {K : Act → World → Prop} {Q : Exit → Act → World → Prop} {E : Prop} (hgd : Region.wanted o (yielded ops a.tmps) = true) (dst : Option Tmp) (hd : o.dst = dst) (f : FuncId) (xs : List Operand) (tys : Array TypeId)
  (ho : o.op = .call { callee := .value (.func f), args := xs.toArray, argTypes := tys }) (vs : List Value) (hv : xs.map a.eval = vs)
  (hent : ∀ args w, (callFunc f args).run P w = .ok (.enter f args) w) (R : Ending → World → Prop) (hc : Calls P f vs.toArray w R)
  (h : ∀ e w', R e w' → ∃ v, e = .returned v ∧ K (a.put dst v) w') : if Region.wanted o (yielded ops a.tmps) = true then Oper.wp P o a w K Q else E := by
 subst hd
 rw [if_pos hgd]
 unfold Oper.wp execOp
 have hf : a.eval (.func f) = .func (.func f) #[] #[] := rfl
 simp only [ho, resolve, hf, Deferred.ofValue, invoke, List.map_toArray, hv, Sem.run_bind, Sem.run_pure, Result.andThen_ok, Array.append_empty, Array.empty_append, hent, Oper.upon_enter]
 refine hc.mono fun e w' hr => ?_
 obtain ⟨v, rfl, hk⟩ := h e w' hr
 exact hk
theorem step_val {P : Program} {w w' : World} {ops : Array Oper} {o : Oper} {a : Act} {K : Act → World → Prop} {Q : Exit → Act → World → Prop} {E : Prop} (hgd : Region.wanted o (yielded ops a.tmps) = true) (dst : Option Tmp) (hd : o.dst = dst) (v : Value)
  (hr : (execOp a.eval o).run P w = .ok (.value v) w') (h : K (a.put dst v) w') : if Region.wanted o (yielded ops a.tmps) = true then Oper.wp P o a w K Q else E := by
 subst hd
 rw [if_pos hgd]
 unfold Oper.wp
 rw [hr]
 exact h
def uptoN {α : Type} (f g : Nat → α) (m j : Nat) : List α := (List.range m).map fun k => if k < j then f k else g k
section
variable {α : Type} (f g : Nat → α) {m j : Nat}
theorem uptoN_len : (uptoN f g m j).length = m := by simp [uptoN]
theorem uptoN_at {i : Nat} (hi : i < m) : (uptoN f g m j)[i]? = some (if i < j then f i else g i) := by simp [uptoN, hi]
theorem uptoN_old {i : Nat} (hi : i < m) (hj : j ≤ i) : (uptoN f g m j)[i]? = some (g i) := by rw [uptoN_at f g hi, if_neg (by omega)]
theorem uptoN_succ : uptoN f g m (j + 1) = (uptoN f g m j).set j (f j) := by
 apply List.ext_getElem?
 intro i
 by_cases hi : i < m
 ·
  rw [uptoN_at f g hi, List.getElem?_set, uptoN_at f g hi, uptoN_len]
  by_cases h : j = i
  ·
   subst h
   rw [if_pos (by omega), if_pos rfl, if_pos hi]
  ·
   rw [if_neg h]
   by_cases h2 : i < j
   ·
    rw [if_pos (by omega), if_pos h2]
   ·
    rw [if_neg (by omega), if_neg h2]
 ·
  rw [List.getElem?_eq_none (by rw [uptoN_len]; omega), List.getElem?_eq_none (by rw [List.length_set, uptoN_len]; omega)]
end
def qC (l : List Nat) : Array Value := (l.map qv).toArray
theorem qC_size (l : List Nat) : (qC l).size = l.length := by simp [qC]
theorem qC_at {l : List Nat} {i x : Nat} (h : l[i]? = some x) : (qC l)[i]? = some (.int .u64 (x : Int)) := by simp [qC, h, qv]
theorem qC_set (l : List Nat) (i x : Nat) : (qC l).setIfInBounds i (.int .u64 (x : Int)) = qC (l.set i x) := by
 simp [qC, List.map_set, qv]
theorem qC_one (l : List Nat) : (qC l).all (·.oneCell') = true := by
 rw [Array.all_eq_true_iff_forall_mem]
 intro v hv
 obtain ⟨x, _, rfl⟩ := List.mem_map.1 (by simpa [qC] using hv)
 rfl
theorem RowC.setN {w : World} {g : Nat} {t : TypeId} {l : List Nat} (h : RowC w g t (qC l)) (i x : Nat) : RowC (w.setCell ⟨g, i, none⟩ (.int .u64 (x : Int))) g t (qC (l.set i x)) := by
 have := h.set_ i (.int .u64 (x : Int))
 rwa [qC_set] at this

theorem lcQ {P : Program} {ops : Array Oper} {rest : List Oper} {o : Oper} {a : Act} {w : World} {Q : Exit → Act → World → Prop} (ty : TypeId) (x : Operand) (g : Nat) {t : TypeId} (cs : Array Value) {d : TypeDesc} (hg : RowC w g t cs)
    (hu : P.underlying ty = some d) (hi : (P.info? ty).map (·.size) = some cs.size) (h : wpList P ops Q rest (a.put o.dst (.agg cs)) w)
    (hgd : Region.wanted o (yielded ops a.tmps) = true := by kernel_rfl) (ho : o.op = .load ty x := by rfl) (hx : a.eval x = .pointer (some ⟨g, 0, none⟩) := by rfl) (hd : (match d with | .struct _ | .array _ _ => true | _ => false) = true := by rfl) : wpList P ops Q (o :: rest) a w :=
  wpList_loadC hgd ty x ho g hx t cs d hg hu hd hi h
theorem srQ {P : Program} {ops : Array Oper} {rest : List Oper} {o : Oper} {a : Act} {w : World} {Q : Exit → Act → World → Prop} (ty : TypeId) (x y : Operand) (g : Nat) (cells : Array Value) {t : TypeId} (old : Array Value) (hg : w.heap[g]? = some (.cells old t (0, 0)))
    (hi : (P.info? ty).map (·.size) = some cells.size) (hold : old.size = cells.size) (h1 : cells.all (·.oneCell') = true) (h : wpList P ops Q rest (a.put o.dst undef) (w.setRow g cells))
    (hgd : o.guard = none := by rfl) (ho : o.op = .store ty x y := by rfl) (hx : a.eval x = .pointer (some ⟨g, 0, none⟩) := by rfl) (hy : a.eval y = .agg cells := by rfl) : wpList P ops Q (o :: rest) a w :=
  wpList_store_row hgd ty x y ho g cells hx hy t old hg hi hold h1 h
end Go.Proofs.YtbiijdboolpaeaaDoor
