import Derived.WalkKit
import Derived.Deep.Draws
import Derived.Deep.WholeRow
/-
  WORDS OF 32 BITS: what the walk writes of them (numbers, wrapped) and the words themselves (UInt32). Nothing of the program.
-/
set_option linter.unusedVariables false
namespace Go.Proofs.YtlidhdljgnijaaaDoor
open Go.RowKit

/-- a 32-bit word as a cell -/
def wv (x : UInt32) : Value := .int .u32 (x.toNat : Int)
theorem u32_lt (x : UInt32) : x.toNat < 4294967296 := x.toNat_lt

def rorU (x : UInt32) (k : Nat) : UInt32 := x >>> UInt32.ofNat k ||| x <<< UInt32.ofNat (32 - k)

theorem or_ror (x : UInt32) (k : Nat) (h1 : 1 ≤ k) (h2 : k ≤ 31) :
    bits .or .u32 ((x.toNat : Int) / 2 ^ k) ((x.toNat : Int) * 2 ^ (32 - k) % 4294967296) = ((rorU x k).toNat : Int) := by
  have hx := u32_lt x
  have e1 : (x.toNat : Int) / 2 ^ k = ((x.toNat / 2 ^ k : Nat) : Int) := by
    rw [Int.natCast_ediv, Int.natCast_pow]; rfl
  have e2 : (x.toNat : Int) * 2 ^ (32 - k) % 4294967296 = ((x.toNat * 2 ^ (32 - k) % 4294967296 : Nat) : Int) := by
    rw [Int.natCast_emod, Int.natCast_mul, Int.natCast_pow]; rfl
  rw [e1, e2, u32_or_nat _ _ (Nat.lt_of_le_of_lt (Nat.div_le_self _ _) hx) (Nat.mod_lt _ (by omega))]
  unfold rorU
  rw [UInt32.toNat_or, UInt32.toNat_shiftRight, UInt32.toNat_shiftLeft, UInt32.toNat_ofNat', UInt32.toNat_ofNat',
    Nat.mod_eq_of_lt (show k < 2 ^ 32 by omega), Nat.mod_eq_of_lt (show 32 - k < 2 ^ 32 by omega), Nat.mod_eq_of_lt (show k < 32 by omega), Nat.mod_eq_of_lt (show 32 - k < 32 by omega),
    Nat.shiftRight_eq_div_pow, Nat.shiftLeft_eq]

theorem w_add (a b : UInt32) : ((a.toNat : Int) + (b.toNat : Int)) % 4294967296 = ((a + b).toNat : Int) := by
  rw [UInt32.toNat_add]
  omega
theorem w_add4 (a b c d : UInt32) : ((a.toNat : Int) + b.toNat + c.toNat + d.toNat) % 4294967296 = ((a + b + c + d).toNat : Int) := by
  rw [UInt32.toNat_add, UInt32.toNat_add, UInt32.toNat_add]
  omega
theorem w_xor (a b : UInt32) : bits .xor .u32 (a.toNat : Int) (b.toNat : Int) = ((a ^^^ b).toNat : Int) := by
  rw [u32_xor_nat _ _ (u32_lt a) (u32_lt b), UInt32.toNat_xor]
theorem w_and (a b : UInt32) : bits .and .u32 (a.toNat : Int) (b.toNat : Int) = ((a &&& b).toNat : Int) := by
  rw [u32_and_nat _ _ (u32_lt a) (u32_lt b), UInt32.toNat_and]
theorem w_shr (a : UInt32) (k : Nat) (hk : k < 32) : (a.toNat : Int) / 2 ^ k = ((a >>> UInt32.ofNat k).toNat : Int) := by
  rw [UInt32.toNat_shiftRight, UInt32.toNat_ofNat', Nat.mod_eq_of_lt (show k < 2 ^ 32 by omega), Nat.mod_eq_of_lt hk, Nat.shiftRight_eq_div_pow, Int.natCast_ediv, Int.natCast_pow]
  rfl

/-- a complement, as the walk writes it -/
theorem w_not (a : UInt32) : bits .xor .u32 (if IntKind.u32.signed = true then -1 else IntKind.u32.max) (a.toNat : Int) = ((~~~a).toNat : Int) := by
  have e : (if IntKind.u32.signed = true then (-1 : Int) else IntKind.u32.max) = (((4294967295 : UInt32).toNat : Nat) : Int) := rfl
  rw [e, w_xor]
  have e2 : (4294967295 : UInt32) ^^^ a = ~~~a := by
    apply UInt32.eq_of_toBitVec_eq
    exact BitVec.allOnes_xor
  rw [e2]

/-- block g is an array of words -/
def ArrW (w : World) (g : Nat) (t : TypeId) (l : List UInt32) : Prop := w.heap[g]? = some (.cells (l.map wv).toArray t (0, 0))

section
variable {w w' : World} {g : Nat} {t : TypeId} {l : List UInt32}
theorem ArrW.lt (h : ArrW w g t l) : g < w.heap.size := by
  unfold ArrW at h
  exact (Array.getElem?_eq_some_iff.1 h).1
theorem ArrW.cell (h : ArrW w g t l) {i : Nat} {x : UInt32} (hx : l[i]? = some x) : w.cell? ⟨g, i, none⟩ = some (.int .u32 (x.toNat : Int)) := by
  unfold ArrW at h
  rw [cell_of_row w g i _ t (0, 0) h]
  simp [hx, wv]
theorem ArrW.frozen (h : ArrW w g t l) (i : Nat) : w.frozen? ⟨g, i, none⟩ = false := by
  unfold ArrW at h
  exact frozen_of_row w g i _ t h
theorem ArrW.new (w : World) (t : TypeId) (cs : Array Value) (l : List UInt32) (h : (l.map wv).toArray = cs) : ArrW (w.alloc (.cells cs t)) w.heap.size t l := by
  subst h
  exact heap_alloc_new w _
theorem ArrW.mk_ (w : World) (t : TypeId) (cs : Array Value) (l : List UInt32) {b : Nat} (hb : w.heap.size = b) (h : (l.map wv).toArray = cs) : ArrW (w.alloc (.cells cs t)) b t l := by
  subst hb
  exact ArrW.new w t cs l h
theorem ArrW.of (h : ArrW w g t l) (e : w'.heap[g]? = w.heap[g]?) : ArrW w' g t l := by unfold ArrW at h ⊢; rw [e]; exact h
theorem ArrW.drew (h : ArrW w g t l) : ArrW w.drew g t l := h.of rfl
theorem ArrW.drewN (h : ArrW w g t l) (n : Nat) : ArrW (w.drewN n) g t l := h.of rfl
theorem ArrW.alloc (h : ArrW w g t l) (o : Obj) : ArrW (w.alloc o) g t l := h.of (heap_alloc_old w o h.lt)
theorem ArrW.below {B : Nat} (h : ArrW w g t l) (hb : Below B w w') (hg : g < B) : ArrW w' g t l := h.of (hb.block g hg)
theorem ArrW.set_ (h : ArrW w g t l) (i : Nat) (x : UInt32) : ArrW (w.setCell ⟨g, i, none⟩ (.int .u32 (x.toNat : Int))) g t (l.set i x) := by
  unfold ArrW at h ⊢
  simp only [World.setCell, Array.getElem?_modify, h, Option.map_some]
  rw [List.map_set]
  simp [wv]
theorem ArrW.row (h : ArrW w g t l) (l' : List UInt32) : ArrW (w.setRow g (l'.map wv).toArray) g t l' := by
  unfold ArrW at h ⊢
  exact setRow_heap w g _ _ t _ h
theorem ArrW.rowFar {g' : Nat} (h : ArrW w g t l) (hne : g ≠ g') (cs : Array Value) : ArrW (w.setRow g' cs) g t l := h.of (setRow_other w g' g cs hne)
theorem below_setRow {B : Nat} {a w : World} (h : Below B a w) {g : Nat} (hg : B ≤ g) (cs : Array Value) : Below B a (w.setRow g cs) :=
  h.trans ⟨rfl, rfl, rfl, by simp [World.setRow], fun k hk => setRow_other w g k cs (by omega)⟩
theorem heap_new {w : World} {b : Nat} (hb : w.heap.size = b) (o : Obj) : (w.alloc o).heap[b]? = some o := by subst hb; exact heap_alloc_new w o
theorem one_wv (l : List UInt32) : ((l.map wv).toArray).all (·.oneCell') = true := by
  rw [Array.all_eq_true_iff_forall_mem]
  intro v hv
  obtain ⟨x, _, rfl⟩ := List.mem_map.1 (by simpa using hv)
  rfl
theorem ArrW.far (h : ArrW w g t l) {p : Addr} (hp : g ≠ p.block) (u : Value) : ArrW (w.setCell p u) g t l := h.of (Below.heap_setCell w p u g hp)
end

end Go.Proofs.YtlidhdljgnijaaaDoor

