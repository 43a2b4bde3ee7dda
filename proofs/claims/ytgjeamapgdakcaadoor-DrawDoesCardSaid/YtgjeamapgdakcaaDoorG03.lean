import Derived.WalkKit
import Derived.Deep.Draws
import Derived.Deep.WholeRow
/-
  WORDS OF 32 BITS: what the walk writes of them (numbers, wrapped) and the words themselves (UInt32). Nothing of the program.
-/
set_option linter.unusedVariables false
namespace Go.Proofs.YtgjeamapgdakcaaDoor
open Go.RowKit

/-- a 32-bit word as a cell -/
def wv (x : UInt32) : Value := .int .u32 (x.toNat : Int)
theorem wv_def (x : UInt32) : wv x = .int .u32 (x.toNat : Int) := rfl

theorem u32_lt (x : UInt32) : x.toNat < 4294967296 := x.toNat_lt

def rorU (x : UInt32) (k : Nat) : UInt32 := x >>> UInt32.ofNat k ||| x <<< UInt32.ofNat (32 - k)

theorem or_ror (x : UInt32) (k : Nat) (h1 : 1 ≤ k) (h2 : k ≤ 31) :
    bits .or .u32 ((x.toNat : Int) / 2 ^ k) ((x.toNat : Int) * 2 ^ (32 - k) % 4294967296) = ((rorU x k).toNat : Int) := by
  have hx := u32_lt x
  have e1 : (x.toNat : Int) / 2 ^ k = ((x.toNat / 2 ^ k : Nat) : Int) := by
    rw [Int.natCast_ediv, Int.natCast_pow]; rfl
  have e2 : (x.toNat : Int) * 2 ^ (32 - k) % 4294967296 = ((x.toNat * 2 ^ (32 - k) % 4294967296 : Nat) : Int) := by
    rw [Int.natCast_emod, Int.natCast_mul, Int.natCast_pow]; rfl
  rw [e1, e2, u32_or_nat _ _ (Nat.lt_of_le_of_lt (Nat.div_le_self _ _) hx) (Nat.mod_lt _ (by omega))]
  unfold rorU
  rw [UInt32.toNat_or, UInt32.toNat_shiftRight, UInt32.toNat_shiftLeft, UInt32.toNat_ofNat', UInt32.toNat_ofNat',
    Nat.mod_eq_of_lt (show k < 2 ^ 32 by omega), Nat.mod_eq_of_lt (show 32 - k < 2 ^ 32 by omega), Nat.mod_eq_of_lt (show k < 32 by omega), Nat.mod_eq_of_lt (show 32 - k < 32 by omega),
    Nat.shiftRight_eq_div_pow, Nat.shiftLeft_eq]

theorem w_add (a b : UInt32) : ((a.toNat : Int) + (b.toNat : Int)) % 4294967296 = ((a + b).toNat : Int) := by
  rw [UInt32.toNat_add]
  omega
theorem w_add4 (a b c d : UInt32) : ((a.toNat : Int) + b.toNat + c.toNat + d.toNat) % 4294967296 = ((a + b + c + d).toNat : Int) := by
  rw [UInt32.toNat_add, UInt32.toNat_add, UInt32.toNat_add]
  omega
theorem w_xor (a b : UInt32) : bits .xor .u32 (a.toNat : Int) (b.toNat : Int) = ((a ^^^ b).toNat : Int) := by
  rw [u32_xor_nat _ _ (u32_lt a) (u32_lt b), UInt32.toNat_xor]
theorem w_and (a b : UInt32) : bits .and .u32 (a.toNat : Int) (b.toNat : Int) = ((a &&& b).toNat : Int) := by
  rw [u32_and_nat _ _ (u32_lt a) (u32_lt b), UInt32.toNat_and]
theorem w_or (a b : UInt32) : bits .or .u32 (a.toNat : Int) (b.toNat : Int) = ((a ||| b).toNat : Int) := by
  rw [u32_or_nat _ _ (u32_lt a) (u32_lt b), UInt32.toNat_or]
theorem w_shr (a : UInt32) (k : Nat) (hk : k < 32) : (a.toNat : Int) / 2 ^ k = ((a >>> UInt32.ofNat k).toNat : Int) := by
  rw [UInt32.toNat_shiftRight, UInt32.toNat_ofNat', Nat.mod_eq_of_lt (show k < 2 ^ 32 by omega), Nat.mod_eq_of_lt hk, Nat.shiftRight_eq_div_pow, Int.natCast_ediv, Int.natCast_pow]
  rfl

/-- a complement, as the walk writes it -/
theorem w_not (a : UInt32) : bits .xor .u32 (if IntKind.u32.signed = true then -1 else IntKind.u32.max) (a.toNat : Int) = ((~~~a).toNat : Int) := by
  have e : (if IntKind.u32.signed = true then (-1 : Int) else IntKind.u32.max) = (((4294967295 : UInt32).toNat : Nat) : Int) := rfl
  rw [e, w_xor]
  have e2 : (4294967295 : UInt32) ^^^ a = ~~~a := by
    apply UInt32.eq_of_toBitVec_eq
    exact BitVec.allOnes_xor
  rw [e2]

/-- block g is an array of words -/
def ArrW (w : World) (g : Nat) (t : TypeId) (l : List UInt32) : Prop := w.heap[g]? = some (.cells (l.map wv).toArray t (0, 0))

section
variable {w w' : World} {g : Nat} {t : TypeId} {l : List UInt32}
theorem ArrW.lt (h : ArrW w g t l) : g < w.heap.size := by
  unfold ArrW at h
  exact (Array.getElem?_eq_some_iff.1 h).1
theorem ArrW.cell (h : ArrW w g t l) {i : Nat} {x : UInt32} (hx : l[i]? = some x) : w.cell? ⟨g, i, none⟩ = some (.int .u32 (x.toNat : Int)) := by
  unfold ArrW at h
  rw [cell_of_row w g i _ t (0, 0) h]
  simp [hx, wv]
theorem ArrW.frozen (h : ArrW w g t l) (i : Nat) : w.frozen? ⟨g, i, none⟩ = false := by
  unfold ArrW at h
  exact frozen_of_row w g i _ t h
theorem ArrW.new (w : World) (t : TypeId) (cs : Array Value) (l : List UInt32) (h : (l.map wv).toArray = cs) : ArrW (w.alloc (.cells cs t)) w.heap.size t l := by
  subst h
  exact heap_alloc_new w _
theorem ArrW.mk_ (w : World) (t : TypeId) (cs : Array Value) (l : List UInt32) {b : Nat} (hb : w.heap.size = b) (h : (l.map wv).toArray = cs) : ArrW (w.alloc (.cells cs t)) b t l := by
  subst hb
  exact ArrW.new w t cs l h
theorem ArrW.of (h : ArrW w g t l) (e : w'.heap[g]? = w.heap[g]?) : ArrW w' g t l := by unfold ArrW at h ⊢; rw [e]; exact h
theorem ArrW.drew (h : ArrW w g t l) : ArrW w.drew g t l := h.of rfl
theorem ArrW.drewN (h : ArrW w g t l) (n : Nat) : ArrW (w.drewN n) g t l := h.of rfl
theorem ArrW.alloc (h : ArrW w g t l) (o : Obj) : ArrW (w.alloc o) g t l := h.of (heap_alloc_old w o h.lt)
theorem ArrW.below {B : Nat} (h : ArrW w g t l) (hb : Below B w w') (hg : g < B) : ArrW w' g t l := h.of (hb.block g hg)
theorem ArrW.set_ (h : ArrW w g t l) (i : Nat) (x : UInt32) : ArrW (w.setCell ⟨g, i, none⟩ (.int .u32 (x.toNat : Int))) g t (l.set i x) := by
  unfold ArrW at h ⊢
  simp only [World.setCell, Array.getElem?_modify, h, Option.map_some]
  rw [List.map_set]
  simp [wv]
theorem ArrW.row (h : ArrW w g t l) (l' : List UInt32) : ArrW (w.setRow g (l'.map wv).toArray) g t l' := by
  unfold ArrW at h ⊢
  exact setRow_heap w g _ _ t _ h
theorem ArrW.rowFar {g' : Nat} (h : ArrW w g t l) (hne : g ≠ g') (cs : Array Value) : ArrW (w.setRow g' cs) g t l := h.of (setRow_other w g' g cs hne)
theorem below_setRow {B : Nat} {a w : World} (h : Below B a w) {g : Nat} (hg : B ≤ g) (cs : Array Value) : Below B a (w.setRow g cs) :=
  h.trans ⟨rfl, rfl, rfl, by simp [World.setRow], fun k hk => setRow_other w g k cs (by omega)⟩
theorem heap_new {w : World} {b : Nat} (hb : w.heap.size = b) (o : Obj) : (w.alloc o).heap[b]? = some o := by subst hb; exact heap_alloc_new w o
theorem setRow_new {w : World} {b : Nat} (hb : w.heap.size = b) (c c' : Array Value) (t : TypeId) : (w.alloc (.cells c t)).setRow b c' = w.alloc (.cells c' t) := by subst hb; exact World.setRow_alloc_new w c c' t
theorem one_wv (l : List UInt32) : ((l.map wv).toArray).all (·.oneCell') = true := by
  rw [Array.all_eq_true_iff_forall_mem]
  intro v hv
  obtain ⟨x, _, rfl⟩ := List.mem_map.1 (by simpa using hv)
  rfl
theorem ArrW.far (h : ArrW w g t l) {p : Addr} (hp : g ≠ p.block) (u : Value) : ArrW (w.setCell p u) g t l := h.of (Below.heap_setCell w p u g hp)
end

end Go.Proofs.YtgjeamapgdakcaaDoor

/-
  SHA-256 AS PLAIN FUNCTIONS ON WORDS (UInt32) AND BYTES. Nothing of the program.
-/
set_option linter.unusedVariables false
namespace Go.Proofs.YtgjeamapgdakcaaDoor

def kU : List UInt32 := [1116352408, 1899447441, 3049323471, 3921009573, 961987163, 1508970993, 2453635748, 2870763221, 3624381080, 310598401, 607225278, 1426881987, 1925078388, 2162078206, 2614888103, 3248222580, 3835390401, 4022224774, 264347078, 604807628, 770255983, 1249150122, 1555081692, 1996064986, 2554220882, 2821834349, 2952996808, 3210313671, 3336571891, 3584528711, 113926993, 338241895, 666307205, 773529912, 1294757372, 1396182291, 1695183700, 1986661051, 2177026350, 2456956037, 2730485921, 2820302411, 3259730800, 3345764771, 3516065817, 3600352804, 4094571909, 275423344, 430227734, 506948616, 659060556, 883997877, 958139571, 1322822218, 1537002063, 1747873779, 1955562222, 2024104815, 2227730452, 2361852424, 2428436474, 2756734187, 3204031479, 3329325298]
def firstU : List UInt32 := [1779033703, 3144134277, 1013904242, 2773480762, 1359893119, 2600822924, 528734635, 1541459225]

theorem kU_len : kU.length = 64 := rfl
theorem firstU_len : firstU.length = 8 := rfl

def S0 (x : UInt32) : UInt32 := rorU x 2 ^^^ rorU x 13 ^^^ rorU x 22
def S1 (x : UInt32) : UInt32 := rorU x 6 ^^^ rorU x 11 ^^^ rorU x 25
def chU (e f g : UInt32) : UInt32 := e &&& f ^^^ ~~~e &&& g
def majU (a b c : UInt32) : UInt32 := a &&& b ^^^ a &&& c ^^^ b &&& c

def T1 (e f g h k w : UInt32) : UInt32 := h + S1 e + chU e f g + k + w
def T2 (a b c : UInt32) : UInt32 := S0 a + majU a b c

/-- one round -/
def roundU (k w : UInt32) : List UInt32 → List UInt32
  | [a, b, c, d, e, f, g, h] => [T1 e f g h k w + T2 a b c, a, b, c, d + T1 e f g h k w, e, f, g]
  | l => l
def roundsTo (h ws : List UInt32) : Nat → List UInt32
  | 0 => h
  | t + 1 => roundU (kU.getD t 0) (ws.getD t 0) (roundsTo h ws t)

theorem eight {l : List UInt32} (h : l.length = 8) : ∃ a b c d e f g i, l = [a, b, c, d, e, f, g, i] := by
  match l, h with
  | [a, b, c, d, e, f, g, i], _ => exact ⟨a, b, c, d, e, f, g, i, rfl⟩

theorem roundU_len (k w : UInt32) {l : List UInt32} (h : l.length = 8) : (roundU k w l).length = 8 := by
  obtain ⟨a, b, c, d, e, f, g, i, rfl⟩ := eight h
  rfl
theorem roundsTo_len {h ws : List UInt32} (hl : h.length = 8) : ∀ t, (roundsTo h ws t).length = 8
  | 0 => hl
  | t + 1 => roundU_len _ _ (roundsTo_len hl t)

/-- each word of the one and of the other, together: the first j -/
def addTo (h v : List UInt32) (j : Nat) : List UInt32 := (List.range 8).map fun i => if i < j then h.getD i 0 + v.getD i 0 else h.getD i 0
def blockW (h ws : List UInt32) : List UInt32 := addTo h (roundsTo h ws 64) 8

theorem addTo_len (h v : List UInt32) (j : Nat) : (addTo h v j).length = 8 := by simp [addTo]
theorem addTo_zero {h : List UInt32} (hl : h.length = 8) (v : List UInt32) : addTo h v 0 = h := by
  obtain ⟨a, b, c, d, e, f, g, i, rfl⟩ := eight hl
  rfl
theorem addTo_succ (h v : List UInt32) (j : Nat) : addTo h v (j + 1) = (addTo h v j).set j (h.getD j 0 + v.getD j 0) := by
  apply List.ext_getElem (by simp [addTo])
  intro i h1 h2
  rw [List.getElem_set]
  simp only [addTo, List.getElem_map, List.getElem_range]
  by_cases h : j = i
  · subst h; simp
  · rw [if_neg h]
    by_cases h3 : i < j
    · rw [if_pos (by omega), if_pos h3]
    · rw [if_neg (by omega), if_neg h3]
theorem addTo_at {h v : List UInt32} {j : Nat} (hj : j < 8) : (addTo h v j)[j]? = some (h.getD j 0) := by
  rw [List.getElem?_eq_getElem (by rw [addTo_len]; omega)]
  simp [addTo]

end Go.Proofs.YtgjeamapgdakcaaDoor

