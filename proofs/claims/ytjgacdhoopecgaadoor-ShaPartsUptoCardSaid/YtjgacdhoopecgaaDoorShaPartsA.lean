/-
  THE WALK of ShaParts (coterielaw02).
-/
import Derived.Test.YtjgacdhoopecgaaDoorShaRest
import Derived.Test.YtjgacdhoopecgaaDoorFew
import Derived.Test.YtjgacdhoopecgaaDoorShaSums
import Derived.Deep.RegionHeld3
set_option linter.unusedVariables false
namespace Go.Proofs.YtjgacdhoopecgaaDoor
open Go.RowKit

def hU (L : List UInt8) : List UInt32 := blocksTo firstU L (L.length / 64)
def tU (L : List UInt8) : List UInt8 := L.drop (64 * (L.length / 64))
/-- the slice is the rest of what is written of L; its block is from 'base' on -/
def StU (w : World) (base : Nat) (L : List UInt8) (A : Option Addr) (k c : Nat) : Prop := w.ownsRow base 5 1 (.slice A k c) k ((tU L).map bv) ∧ chkU (hU L) L.length k = true
theorem hU_len (L : List UInt8) : (hU L).length = 8 := blocksTo_len rfl _ _
theorem StU.rd {w : World} {base : Nat} {L : List UInt8} {A : Option Addr} {k c : Nat} (h : StU w base L A k c) : Rd w w.heap.size A k ((tU L).map bv) := Rd.of_own h.1
theorem StU.len {w : World} {base : Nat} {L : List UInt8} {A : Option Addr} {k c : Nat} (h : StU w base L A k c) : (tU L).length = k := by have := h.rd.len; simpa using this
theorem StU.go {w w' : World} {base : Nat} {L : List UInt8} {A : Option Addr} {k c : Nat} (h : StU w base L A k c) (hb : Below w.heap.size w w') : StU w' base L A k c := ⟨own_below h.1 hb, h.2⟩
theorem StU.base {w : World} {B base : Nat} {L : List UInt8} {A : Option Addr} {k c : Nat} (h : StU w B L A k c) (hb : base ≤ B) : StU w base L A k c := ⟨own_base h.1 hb, h.2⟩
theorem StU.row {w : World} {base g : Nat} {L : List UInt8} {A : Option Addr} {k c : Nat} (h : StU w base L A k c) (hg : g < base) (cs : Array Value) : StU (w.setRow g cs) base L A k c :=
  ⟨own_far h.1 (by simp) (fun g' hg' => setRow_other w g g' cs (by have := (h.1.lt g' hg').1; omega)), h.2⟩
theorem StU.nil (w : World) (base : Nat) : StU w base [] none 0 0 := ⟨World.ownsRow_nil _ _ _ _, rfl⟩
theorem ShaAt.rowOf {w : World} {g : Nat} {h : List UInt32} {n : Nat} {v : Value} (k : ShaAt w g h n v) {h' : List UInt32} (hh : h'.length = 8) (n' : Nat) (v' : Value) : ShaAt (w.setRow g (shaL h' n' v').toArray) g h' n' v' := ⟨hh, setRow_heap w g _ _ _ _ k.2⟩
theorem infoL (L : List UInt8) (n : Nat) (v : Value) : (Tryd.prog.info? 35).map (·.size) = some ((shaL (hU L) n v).toArray).size := by rw [infoSha]; simp [shaL_len (hU_len L)]
theorem zeroL (L : List UInt8) (n : Nat) (v : Value) : (zeroSha.toArray).size = ((shaL (hU L) n v).toArray).size := by simp [shaL_len (hU_len L)]; rfl

theorem len_le_flat : ∀ {ts : List (List UInt8)} {t : List UInt8}, t ∈ ts → t.length ≤ ts.flatten.length
  | u :: r, t, h => by
    rw [List.flatten_cons, List.length_append]
    rcases List.mem_cons.1 h with rfl | h
    · omega
    · have := len_le_flat h
      omega
theorem Write_L (L : List UInt8) (A : Option Addr) (k c : Nat) (At : Option Addr) (m ct : Nat) (vs : List Value) (ts : List (List UInt8)) (w : World) {base : Nat} (hst : StU w base L A k c) (hm : m ≤ 5864062014805) (hl : L.length + ts.flatten.length ≤ 1099511627776)
    (hv : Rd w w.heap.size At m vs) (ht : Txs w w.heap.size vs ts) (hT : CTab w) :
    Calls Tryd.prog 15 #[.agg (shaL (hU L) L.length (.slice A k c)).toArray, .slice At m ct] w fun e w' =>
      ∃ A' k' c', e = .returned (.tuple #[.agg (shaL (hU (L ++ ts.flatten)) (L ++ ts.flatten).length (.slice A' k' c')).toArray, .int .i64 0]) ∧ StU w' w.heap.size (L ++ ts.flatten) A' k' c' ∧ Below w.heap.size w w' := by
  have hlen := hst.len
  have hw := write_twice firstU L ts.flatten
  refine (Write_ok (hU L) L.length A k c (tU L) At m ct vs ts w (hU_len L) (by omega) hst.rd hm (fun t ht' => ?_) hv ht hst.2 hT (decide_eq_true hl)).mono ?_
  · have := len_le_flat ht'
    omega
  rintro e w' ⟨A', k', c', rfl, hown, hb⟩
  have h1 : blocksTo (hU L) (tU L ++ ts.flatten) ((tU L ++ ts.flatten).length / 64) = hU (L ++ ts.flatten) := hw.1
  have h2 : (tU L ++ ts.flatten).drop (64 * ((tU L ++ ts.flatten).length / 64)) = tU (L ++ ts.flatten) := hw.2
  rw [h2] at hown
  have hR := Rd.of_own hown
  have hk : (tU (L ++ ts.flatten)).length = k' := by have := hR.len; simpa using this
  have hc := chk_write hst.2 hlen hl
  rw [h1, ← List.length_append, show (tU L ++ ts.flatten).length - 64 * ((tU L ++ ts.flatten).length / 64) = k' by rw [← hk, ← h2, List.length_drop]] at hc
  rw [h1, ← List.length_append]
  exact ⟨A', k', c', rfl, ⟨hown, hc⟩, hb⟩

/-- all at once, onto nothing -/
theorem Write_L0 (L : List UInt8) (A8 : Option Addr) (n8 c8 : Nat) (Ah : Option Addr) (ch : Nat) (w : World) (hL : L.length = n8) (hc : n8 ≤ c8) (hl : L.length ≤ 1099511627776) (h1 : Rd w w.heap.size Ah 1 [.slice A8 n8 c8]) (h2 : Rd w w.heap.size A8 n8 (L.map bv)) (hT : CTab w) :
    Calls Tryd.prog 15 #[.agg (shaL firstU 0 (.slice none 0 0)).toArray, .slice Ah 1 ch] w fun e w' =>
      ∃ A' k' c', e = .returned (.tuple #[.agg (shaL (hU L) L.length (.slice A' k' c')).toArray, .int .i64 0]) ∧ StU w' w.heap.size L A' k' c' ∧ Below w.heap.size w w' := by
  have h := Write_L [] none 0 0 Ah 1 ch [.slice A8 n8 c8] [L] w (StU.nil w 0) (by omega) (by simpa using hl) h1 (txs_one hL hc h2) hT
  rw [show ([] ++ [L].flatten : List UInt8) = L by simp] at h
  exact h
theorem d_rd {a w : World} {A : Option Addr} {n : Nat} {xs : List Value} (h : Rd a a.heap.size A n xs) (hb : Below a.heap.size a w) : Rd w w.heap.size A n xs := (h.below hb).more hb.size
theorem d_txs {a w : World} {vs : List Value} {ts : List (List UInt8)} (h : Txs a a.heap.size vs ts) (hb : Below a.heap.size a w) : Txs w w.heap.size vs ts := (h.below hb).more hb.size
theorem d_al (w : World) (o : Obj) : Below w.heap.size w (w.alloc o) := (Below.refl _ _).alloc (Nat.le_refl _) o

theorem Txs.append {w : World} {B : Nat} {vs vs' : List Value} {ts ts' : List (List UInt8)} (h : Txs w B vs ts) (h' : Txs w B vs' ts') : Txs w B (vs ++ vs') (ts ++ ts') := by
  refine ⟨by simp [h.1, h'.1], fun i v t hv ht => ?_⟩
  rw [List.getElem?_append] at hv ht
  rw [← h.1] at ht
  split at hv
  · rename_i hi
    rw [if_pos hi] at ht
    exact h.2 i v t hv ht
  · rename_i hi
    rw [if_neg hi] at ht
    exact h'.2 _ v t hv ht
theorem Txs.one_cell {w : World} {B : Nat} {vs : List Value} {ts : List (List UInt8)} (h : Txs w B vs ts) : ∀ u ∈ vs, u.oneCell' = true := by
  intro u hu
  obtain ⟨i, hi, rfl⟩ := List.mem_iff_getElem.1 hu
  have := h.1
  obtain ⟨A, c, e, _⟩ := h.2 i _ _ (List.getElem?_eq_getElem hi) (List.getElem?_eq_getElem (show i < ts.length by omega))
  rw [e]
  rfl

theorem step_append_rd {P : Program} {w : World} {ops : Array Oper} {o : Oper} {a : Act} {K : Act → World → Prop} {Q : Exit → Act → World → Prop} {E : Prop} (hgd : Region.wanted o (yielded ops a.tmps) = true) (s x : Operand) (t : TypeId)
    (ho : o.op = .call { callee := .builtin .append, args := #[s, x], argTypes := #[t, t] })
    (base : Nat) (e : TypeId) (i : TypeInfo) (z : Value) (bytes : Nat) (ht : P.underlying t = some (.slice e)) (hi : P.info? e = some i) (hz : i.zero = some z)
    (hsize : i.size = 1) (hby : i.bytes = bytes) (hzs : z.cells.size = 1)
    (v : Value) (n : Nat) (xs : List Value) (hs : a.eval s = v) (hown : w.ownsRow base e 1 v n xs)
    (B : Nat) (A : Option Addr) (m c : Nat) (news : List Value) (hx : a.eval x = .slice A m c) (hr : Rd w B A m news) (h1 : ∀ u ∈ news, u.oneCell' = true)
    (h63 : n + m ≤ maxLen) (hbytes : (n + m) * bytes ≤ 140737488355328) (hbase : base ≤ w.heap.size)
    (h : ∀ v' w', w'.ownsRow base e 1 v' (n + m) (xs ++ news) → w.grownBy w' v.ownBlock → K (a.put o.dst v') w') : if Region.wanted o (yielded ops a.tmps) = true then Oper.wp P o a w K Q else E := by
  rw [if_pos hgd]
  obtain ⟨v', w', hrun, h2, h3, h4⟩ := run_append_rd (P := P) w base t o.type e i z bytes ht hi hz hsize hby hzs v n xs hown B A m c news hr h1 h63 hbytes hbase
  unfold Oper.wp execOp
  simp only [ho, resolve, invoke, builtin, Sem.run_bind, Sem.run_pure, Result.andThen_ok, List.map_toArray, List.map_cons, List.map_nil, hs, hx, hrun]
  exact h v' w' h2 h3

end Go.Proofs.YtjgacdhoopecgaaDoor
