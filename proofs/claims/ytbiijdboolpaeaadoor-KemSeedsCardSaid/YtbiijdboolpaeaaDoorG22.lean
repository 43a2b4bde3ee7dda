import Derived.Test.YtbiijdboolpaeaaDoorG20
import Derived.Test.YtbiijdboolpaeaaDoorG21
import Derived.Test.YtbiijdboolpaeaaDoorG04
import Derived.Laws.Tables
set_option linter.unusedVariables false
namespace Go.Proofs.YtbiijdboolpaeaaDoor
open Go.RowKit
def BndK (r : Nat → Nat) (m : Nat) : Prop := ∀ j, j < 32 → r j ≤ m * 65536
theorem BndK.add {r : Nat → Nat} {m q t : Nat} (h : BndK r m) (ht : t ≤ 65536) : BndK (addAt r q t) (m + 1) := fun j hj => by
 have h1 := h j hj
 unfold addAt
 split
 ·
  rw [Nat.add_mul, Nat.one_mul]
  exact Nat.add_le_add h1 ht
 ·
  exact Nat.le_trans h1 (Nat.mul_le_mul_right _ (Nat.le_succ m))
section
variable {P : Program} {ops : Array Oper} {Q : Exit → Act → World → Prop} {md : Region.Mode} {S : World → Prop} {Ls : List Nat}
def wpAnyU (P : Program) (md : Region.Mode) (ops : Array Oper) (Q : Exit → Act → World → Prop) (S : World → Prop) (Ls : List Nat) : Nat → Array Bool → Act → World → Prop
 | 0, listed, a, w => Region.ready md ops listed = [] ∧ Q .normal a w
 | fuel + 1, listed, a, w =>
  (Region.ready md ops listed = [] → Q .normal a w) ∧
  ∀ i ∈ Region.ready md ops listed, wpOp P ops Q i (fun a' w' => (i ∉ Ls → S w') ∧ wpAnyU P md ops Q S Ls fuel (listed.setIfInBounds i true) a' w') a w
theorem wpAny_of_U : ∀ (fuel : Nat) (listed : Array Bool) (a : Act) (w : World), wpAnyU P md ops Q S Ls fuel listed a w → wpAny P md ops Q fuel listed a w
 | 0, _, _, _, h => h
 | fuel + 1, _, _, _, h => ⟨h.1, fun i hi => wpOp_mono (fun a' w' h' => wpAny_of_U fuel _ a' w' h'.2) (h.2 i hi)⟩
def upB (md : Region.Mode) (ops : Array Oper) : Nat → Nat → Nat → Bool
 | 0, _, _ => false
 | f + 1, k, i => match ops[k]? with
  | some o => o.after.any fun e => Region.binds md e && (e.on == i || upB md ops f e.on i)
  | none => false
def Closed (md : Region.Mode) (ops : Array Oper) (listed : Array Bool) : Prop :=
 ∀ k o, ops[k]? = some o → listed.getD k false = true → ∀ e ∈ o.after, Region.binds md e = true → listed.getD e.on false = true
def closedB (md : Region.Mode) (ops : Array Oper) (listed : Array Bool) : Bool :=
 (List.range ops.size).all fun k => !(listed.getD k false) || match ops[k]? with
  | some o => o.after.all fun e => !(Region.binds md e) || listed.getD e.on false
  | none => true
theorem closed_of {listed : Array Bool} (h : closedB md ops listed = true) : Closed md ops listed := by
 intro k o hk hl e he hb
 have h1 := List.all_eq_true.1 h k (List.mem_range.2 (Array.getElem?_eq_some_iff.1 hk).1)
 rw [hl, hk] at h1
 simp only [Bool.not_true, Bool.false_or] at h1
 have h2 := Array.all_eq_true_iff_forall_mem.1 h1 e he
 rw [hb] at h2
 simpa using h2
theorem Closed.step {listed : Array Bool} {j : Nat} (h : Closed md ops listed) (hj : j ∈ Region.ready md ops listed) : Closed md ops (listed.setIfInBounds j true) := by
 obtain ⟨_, oj, hoj, hall⟩ := mem_ready.1 hj
 intro k o hk hl e he hb
 by_cases hkj : j = k
 ·
  subst hkj
  rw [hoj] at hk
  cases hk
  exact getD_set_true (hall e he hb)
 ·
  rw [getD_set_ne false hkj] at hl
  exact getD_set_true (h k o hk hl e he hb)
theorem up_spec {listed : Array Bool} (hc : Closed md ops listed) {i : Nat} : ∀ (f k : Nat), upB md ops f k i = true → (∀ o, ops[k]? = some o → ∀ e ∈ o.after, Region.binds md e = true → listed.getD e.on false = true) → listed.getD i false = true
 | 0, _, h, _ => by cases h
 | f + 1, k, h, hall => by
  unfold upB at h
  cases hk : ops[k]? with
  | none => rw [hk] at h; cases h
  | some o =>
   rw [hk] at h
   obtain ⟨e, he, hb⟩ := Array.any_eq_true'.1 h
   rw [Bool.and_eq_true] at hb
   have hl := hall o hk e he hb.1
   rcases Bool.or_eq_true_iff.1 hb.2 with h1 | h1
   ·
    rw [beq_iff_eq] at h1
    rwa [h1] at hl
   ·
    exact up_spec hc f e.on h1 (fun o' ho' => hc e.on o' ho' hl)
theorem ready_un {i : Nat} {listed : Array Bool} (hi : listed.getD i true = false) : listed.getD i false = false := by
 rcases Nat.lt_or_ge i listed.size with h' | h'
 ·
  simp [h'] at hi ⊢
  exact hi
 ·
  simp [Array.getElem?_eq_none h']
theorem wpAnyU_first {i : Nat} {oi : Oper} {v : Value} (hi : ops[i]? = some oi) (hsel : ∀ (j : Nat) (o : Oper) cs b, ops[j]? = some o → o.op ≠ .select cs b)
  (hQ : ∀ c a w, Q (.panic c) (a.put oi.dst v) w → Q (.panic c) a w) (hL : (Ls.all fun L => upB md ops ops.size L i) = true) :
  ∀ (fuel : Nat) (listed : Array Bool) (a : Act) (w : World), Closed md ops listed →
   (∀ j oj, ops[j]? = some oj → j ≠ i → listed.getD j true = false → (∀ e ∈ oj.after, Region.binds md e = true → e.on ≠ i) → oi.apart ops oj = true) →
   i ∈ Region.ready md ops listed → YieldsIf P ops S oi v a → S w →
   wpAnyU P md ops Q S Ls fuel (listed.setIfInBounds i true) (a.put oi.dst v) w → wpAnyU P md ops Q S Ls (fuel + 1) listed a w := by
 intro fuel
 induction fuel with
 | zero =>
  intro listed a w _ _ hr hy hS H
  refine ⟨fun h => (by rw [h] at hr; cases hr), fun j hj => ?_⟩
  by_cases hji : j = i
  ·
   subst hji; exact hy.wpOp hi hS ⟨fun _ => hS, H⟩
  ·
   have := ready_mono hj hji
   rw [H.1] at this
   cases this
 | succ fuel ih =>
  intro listed a w hC hfree hr hy hS H
  refine ⟨fun h => (by rw [h] at hr; cases hr), fun j hj => ?_⟩
  by_cases hji : j = i
  ·
   subst hji; exact hy.wpOp hi hS ⟨fun _ => hS, H⟩
  ·
   have h0 := (mem_ready.1 hr).1
   obtain ⟨hjun, oj, hoj, hall⟩ := mem_ready.1 hj
   have hjL : j ∉ Ls := fun hm => by
    have h1 := up_spec hC _ _ (List.all_eq_true.1 hL j hm) (fun o ho => by
     rw [hoj] at ho
     cases ho
     exact hall)
    rw [ready_un h0] at h1
    cases h1
   have h1 := H.2 j (ready_mono hj hji)
   have hnot : ∀ e ∈ oj.after, Region.binds md e = true → e.on ≠ i := fun e he hb heq => by
    have h2 := hall e he hb
    rw [heq, ready_un h0] at h2
    cases h2
   have h2 := wpOp_putIf hoj (hfree j oj hoj hji hjun hnot) (fun cs b => hsel i oi cs b hi) (fun cs b => hsel j oj cs b hoj) hQ hy h1
   have hfree' : ∀ k ok, ops[k]? = some ok → k ≠ i → (listed.setIfInBounds j true).getD k true = false →
     (∀ e ∈ ok.after, Region.binds md e = true → e.on ≠ i) → oi.apart ops ok = true := fun k ok hk hki hun hno => by
    refine hfree k ok hk hki ?_ hno
    by_cases hjk : j = k
    ·
     subst hjk; exact hjun
    ·
     rw [getD_set_ne true hjk] at hun; exact hun
   refine wpOp_mono (fun a' w' h3 => ⟨h3.2.1, ih (listed.setIfInBounds j true) a' w' (hC.step hj) hfree' (ready_mono hr (Ne.symm hji)) h3.1 (h3.2.1 hjL) ?_⟩) h2
   rw [Array.setIfInBounds_comm _ _ hji]
   exact h3.2.2
theorem takeU (i : Nat) (dst : Option Tmp) {oi : Oper} (v : Value) {fuel : Nat} {listed : Array Bool} {a : Act} {w : World} (hi : ops[i]? = some oi) (hd : oi.dst = dst)
  (hs : Region.noSelect ops = true) (hf : Region.free md ops listed i = true) (hr : (Region.ready md ops listed).contains i = true) (hL : (Ls.all fun L => upB md ops ops.size L i) = true) (hC : closedB md ops listed = true)
  (hQ : ∀ c a w, Q (.panic c) (a.put dst v) w → Q (.panic c) a w) (hy : YieldsIf P ops S oi v a) (hS : S w)
  (h : wpAnyU P md ops Q S Ls fuel (listed.setIfInBounds i true) (a.put dst v) w) : wpAnyU P md ops Q S Ls (fuel + 1) listed a w := by
 subst hd
 exact wpAnyU_first hi (Region.noSelect_spec hs) hQ hL fuel listed a w (closed_of hC) (Region.free_spec hi hf) (by simpa using hr) hy hS h
theorem loadU (i : Nat) (dst : Option Tmp) (ty : TypeId) (x : Operand) (b o : Nat) (cs : List Value) {oi : Oper} {fuel : Nat} {listed : Array Bool} {a : Act} {w : World} (hi : ops[i]? = some oi) (hdst : oi.dst = dst)
  (hs : Region.noSelect ops = true) (hf : Region.free md ops listed i = true) (hr : (Region.ready md ops listed).contains i = true) (hL : (Ls.all fun L => upB md ops ops.size L i) = true) (hC : closedB md ops listed = true)
  (ho : oi.op = .load ty x) (hw : Region.wanted oi (yielded ops a.tmps) = true)
  (hx : a.eval x = .pointer (some ⟨b, o, none⟩)) {d : TypeDesc} (hS : ∀ w, S w → w.rangeAt b o cs)
  (hu : P.underlying ty = some d) (hd : d.isRow = true) (hin : (P.info? ty).map (·.size) = some cs.length)
  (hQ : ∀ c a w, Q (.panic c) (a.put dst (.agg cs.toArray)) w → Q (.panic c) a w) (hSw : S w)
  (h : wpAnyU P md ops Q S Ls fuel (listed.setIfInBounds i true) (a.put dst (.agg cs.toArray)) w) : wpAnyU P md ops Q S Ls (fuel + 1) listed a w :=
 takeU i dst _ hi hdst hs hf hr hL hC hQ (yieldsIf_load_mid hw ty x ho b o hx cs d hS hu hd hin) hSw h
theorem oneU (i : Nat) {o : Oper} {fuel : Nat} {listed : Array Bool} {a : Act} {w : World} (hr : Region.ready md ops listed = [i]) (ho : ops[i]? = some o)
  (h : ∀ K' : Act → World → Prop, Shut (∀ a w, (i ∉ Ls → S w) → wpAnyU P md ops Q S Ls fuel (listed.setIfInBounds i true) a w → K' a w) → if Region.wanted o (yielded ops a.tmps) = true then Oper.wp P o a w K' Q else K' (a.put o.dst undef) w) :
  wpAnyU P md ops Q S Ls (fuel + 1) listed a w := by
 refine ⟨fun h0 => (by rw [hr] at h0; cases h0), fun j hj => ?_⟩
 rw [hr, List.mem_singleton] at hj
 subst hj
 exact wpOp_step ho (fun K' hK => h K' (fun a w hS hW => hK a w ⟨hS, hW⟩))
theorem done2U {listed : Array Bool} {a : Act} {w : World} (hr : Region.ready md ops listed = []) (h : Q .normal a w) :
  ∀ fuel, wpAnyU P md ops Q S Ls fuel listed a w
 | 0 => ⟨hr, h⟩
 | _ + 1 => ⟨fun _ => h, by rw [hr]; simp⟩
theorem beginU (S : World → Prop) (Ls : List Nat) {id : Nat} {a : Act} {w : World} (hm : P.follows .mixedOrders = true)
  (h : wpAnyU P .any ops Q S Ls ops.size (Array.replicate ops.size false) a w.drew) : (Code.region id ops true).wp P Q a w :=
 wp_region_any hm (wpAny_of_U _ _ _ _ h)
end
def adN (x y : Nat) : Nat := (x + y) % P25
def sbN (x y : Nat) : Nat := (x + (P25 - y)) % P25
def mlN (x y : Nat) : Nat := x * y % P25
theorem mlN_lt (x y : Nat) : mlN x y < P25 := P25_lt _
def dblN (x z : Nat) : Nat × Nat :=
 (mlN (mlN (adN x z) (adN x z)) (mlN (sbN x z) (sbN x z)),
  mlN (sbN (mlN (adN x z) (adN x z)) (mlN (sbN x z) (sbN x z))) (adN (mlN (adN x z) (adN x z)) (mlN 121665 (sbN (mlN (adN x z) (adN x z)) (mlN (sbN x z) (sbN x z))))))
def difN (u x z y t : Nat) : Nat × Nat :=
 (mlN (adN (mlN (sbN y t) (adN x z)) (mlN (adN y t) (sbN x z))) (adN (mlN (sbN y t) (adN x z)) (mlN (adN y t) (sbN x z))),
  mlN u (mlN (sbN (mlN (sbN y t) (adN x z)) (mlN (adN y t) (sbN x z))) (sbN (mlN (sbN y t) (adN x z)) (mlN (adN y t) (sbN x z)))))
def clampL (l : List UInt8) : List UInt8 := (l.set 0 (byteK l 0 / 8 * 8)).set 31 (byteK l 31 % 64 + 64)
theorem clampL_len {l : List UInt8} (h : l.length = 32) : (clampL l).length = 32 := by simp [clampL, h]
theorem u8_div8 (x : UInt8) : (x / 8 * 8).toNat = x.toNat / 8 * 8 := by
 have := x.toBitVec.isLt
 have h2 : x.toNat < 256 := this
 rw [UInt8.toNat_mul, UInt8.toNat_div]
 simp
 omega
theorem u8_mod64 (x : UInt8) : (x % 64 + 64).toNat = x.toNat % 64 + 64 := by
 rw [UInt8.toNat_add, UInt8.toNat_mod]
 simp
 omega
def bitK (l : List UInt8) (i : Nat) : Bool := (byteK l (i / 8)).toNat / 2 ^ (i % 8) % 2 == 1
def ladNS (u : Nat) (st : (Nat × Nat) × (Nat × Nat)) (b : Bool) : (Nat × Nat) × (Nat × Nat) :=
 if b then (difN u st.2.1 st.2.2 st.1.1 st.1.2, dblN st.2.1 st.2.2) else (dblN st.1.1 st.1.2, difN u st.1.1 st.1.2 st.2.1 st.2.2)
def ladN (u : Nat) (l : List UInt8) : Nat → (Nat × Nat) × (Nat × Nat)
 | 0 => ((1, 0), (u, 1))
 | j + 1 => ladNS u (ladN u l j) (bitK l (254 - j))
def Low4 (st : (Nat × Nat) × (Nat × Nat)) : Prop := st.1.1 < P25 ∧ st.1.2 < P25 ∧ st.2.1 < P25 ∧ st.2.2 < P25
theorem dblN_low (x z : Nat) : (dblN x z).1 < P25 ∧ (dblN x z).2 < P25 := ⟨mlN_lt _ _, mlN_lt _ _⟩
theorem difN_low (u x z y t : Nat) : (difN u x z y t).1 < P25 ∧ (difN u x z y t).2 < P25 := ⟨mlN_lt _ _, mlN_lt _ _⟩
theorem P25_gt1 : 1 < P25 := by decide +kernel
theorem P25_gt0 : 0 < P25 := by decide +kernel
theorem ladN_low {u : Nat} (hu : u < P25) (l : List UInt8) : ∀ j, Low4 (ladN u l j)
 | 0 => ⟨P25_gt1, P25_gt0, hu, P25_gt1⟩
 | j + 1 => by
  rw [ladN, ladNS]
  split
  ·
   exact ⟨(difN_low _ _ _ _ _).1, (difN_low _ _ _ _ _).2, (dblN_low _ _).1, (dblN_low _ _).2⟩
  ·
   exact ⟨(dblN_low _ _).1, (dblN_low _ _).2, (difN_low _ _ _ _ _).1, (difN_low _ _ _ _ _).2⟩
def mltN (l : List UInt8) (u : Nat) : Nat := mlN (ladN u l 255).1.1 (invN (ladN u l 255).1.2 255)
end Go.Proofs.YtbiijdboolpaeaaDoor
