import Derived.Test.YtjhcnhihmgpgbaaG21
import Derived.Test.YtjhcnhihmgpgbaaG22
/-
  CONTRACT of the document's mend (coterieref10).
-/
set_option linter.unusedVariables false
namespace Go.Proofs.Ytjhcnhihmgpgbaa
open Go.RowKit

/-- nodes in a new row -/
theorem SlN.newN {gs : List Nat} {w : World} (hc : Cells gs w) (F : List Nd) (vs : List Value) (cells : Array Value) (hF : NdL (vw gs w) w.heap.size F vs) (hcs : cells.toList = flatV F vs) (hm : F.length ≤ 3) :
    SlN (vw gs (w.alloc (.cells cells 56))) (w.alloc (.cells cells 56)).heap.size (some ⟨w.heap.size, 0, none⟩) F.length F.length F := by
  have hB : Below w.heap.size w (w.alloc (.cells cells 56)) := (Below.refl _ _).alloc (Nat.le_refl _) _
  have hc' := hc.below hB
  have hl := hF.len
  refine ⟨rfl, Nat.le_refl _, by simp only [maxLen]; omega, vs, NdL.keep (vw_keep hc hc' (fun _ _ _ hr => (hr.below hB).more hB.size)) F vs hF, ?_⟩
  refine vw_new hc' (lo := w.heap.size) (Rd.mk_ _ _ _ rfl (by simp) (by rw [← Array.length_toList, hcs, flatV_len hl]) hcs) (fun ad had => by injection had with had; subst had; exact Nat.le_refl _) hc.lt
theorem SlN.at0 {gs : List Nat} {w : World} {B : Nat} {b o n c : Nat} {F : List Nd} (hc : Cells gs w) (h : SlN (vw gs w) B (some ⟨b, o, none⟩) n c F) {i : Nat} (hi : i < F.length) :
    ∃ v, NdV (vw gs w) B F[i] v ∧ w.rangeAt b (o + i * 2) [iv F[i].id, v] ∧ w.cell? ⟨b, o + i * 2 + 1, none⟩ = some v ∧ b < B := by
  obtain ⟨b', o', v, e, hlt, h1, h2, h3⟩ := h.rangeV hc hi
  injection e with e
  injection e with e1 e2
  subst e1 e2
  exact ⟨v, h1, h2, h3, hlt⟩
theorem rk {w w' : World} {b o : Nat} {cs : List Value} (hb : Below w.heap.size w w') (h : w.rangeAt b o cs) (hlt : b < w.heap.size) : w'.rangeAt b o cs := fun j u hu => by
  rw [← h j u hu]
  exact hb.cell (p := ⟨b, o + j, none⟩) hlt
theorem SlN.ad {w : World} {B : Nat} {A : Option Addr} {n c : Nat} {F : List Nd} (h : SlN w B A n c F) (hn : 0 < n) : ∃ b o, A = some ⟨b, o, none⟩ := by
  obtain ⟨_, _, _, us, _, hR⟩ := h
  obtain ⟨b, o, e, _⟩ := hR.pos (by omega)
  exact ⟨b, o, e⟩
theorem mend_pos3 {p1 : List Nd} {q y : Nd} {s : List Nd} (h : q.kids.length = 3) : mendN (p1 ++ [q]) y s = p1 ++ ofKids (q.kids.take 2) :: ofKids (q.kids.drop 2 ++ y.kids) :: s := by simp [mendN, h]
theorem mend_pos2 {p1 : List Nd} {q y : Nd} {s : List Nd} (h : q.kids.length ≠ 3) : mendN (p1 ++ [q]) y s = p1 ++ ofKids (q.kids ++ y.kids) :: s := by simp [mendN, h]
theorem mend_zero3 {q y : Nd} {s : List Nd} (h : q.kids.length = 3) : mendN [] y (q :: s) = ofKids (y.kids ++ q.kids.take 1) :: ofKids (q.kids.drop 1) :: s := by simp [mendN, h]
theorem mend_zero2 {q y : Nd} {s : List Nd} (h : q.kids.length ≠ 3) : mendN [] y (q :: s) = ofKids (y.kids ++ q.kids) :: s := by simp [mendN, h]
theorem set_two (p1 : List Nd) (q y x z : Nd) (s : List Nd) : ((p1 ++ [q] ++ y :: s).set p1.length x).set (p1.length + 1) z = p1 ++ x :: z :: s := by
  rw [List.append_assoc, List.singleton_append, set_mid, List.set_append_right _ _ (by omega), show p1.length + 1 - p1.length = 1 by omega]
  rfl
/-- nodes are appended onto nodes of the call's own: one step of a region that draws its order -/
theorem step_append_nd {ops : Array Oper} {o : Oper} {a : Act} {w : World} {K : Act → World → Prop} {Q : Exit → Act → World → Prop} {E : Prop} (hgd : Region.wanted o (yielded ops a.tmps) = true) (dst : Option Tmp) (hd : o.dst = dst) (s x : Operand)
    (ho : o.op = .call { callee := .builtin .append, args := #[s, x], argTypes := #[53, 53] })
    (base : Nat) (A : Option Addr) (n c : Nat) (F : List Nd) (vs : List Value) (hs : a.eval s = .slice A n c) (hown : w.ownsRow base 56 2 (.slice A n c) n (flatV F vs))
    (B : Nat) (A' : Option Addr) (m c' : Nat) (G : List Nd) (us : List Value) (hx : a.eval x = .slice A' m c') (h1 : ∀ u ∈ flatV G us, u.oneCell' = true) (hr : Rd w B A' (2 * m) (flatV G us))
    (h63 : n + m ≤ 1000000000) (hbase : base ≤ w.heap.size) (hvl : vs.length = F.length)
    (h : ∀ A2 c2 w', w'.ownsRow base 56 2 (.slice A2 (n + m) c2) (n + m) (flatV (F ++ G) (vs ++ us)) → w.grownBy w' (Value.slice A n c).ownBlock → ((Value.slice A2 (n + m) c2).ownBlock = (Value.slice A n c).ownBlock ∨ (Value.slice A2 (n + m) c2).ownBlock = some w.heap.size) → K (a.put dst (.slice A2 (n + m) c2)) w') : if Region.wanted o (yielded ops a.tmps) = true then Oper.wp Try.prog o a w K Q else E := by
  subst hd
  obtain ⟨i, hi, hz, hsz, hby⟩ := node_parts
  rw [if_pos hgd]
  obtain ⟨v', w', hrun, h2, h3, h4⟩ := run_append_rdZ (P := Try.prog) w base 53 o.type 56 i _ 2 32 Try.underlying53 hi hz hsz hby rfl (by omega) _ n _ hown B A' m c' (flatV G us) (by rw [Nat.mul_comm]; exact hr) h1 (by simp only [maxLen]; omega) (by omega) hbase
  obtain ⟨A2, c2, rfl, _, _⟩ := own_formT h2
  unfold Oper.wp execOp
  simp only [ho, resolve, invoke, builtin, Sem.run_bind, Sem.run_pure, Result.andThen_ok, List.map_toArray, List.map_cons, List.map_nil, hs, hx, hrun]
  refine h A2 c2 w' ?_ h3 h4
  rw [flatV_app hvl]
  exact h2
/-- the first nodes of an own row are an own row -/
theorem KidR.pre {gs : List Nat} {base : Nat} {w : World} {g c : Nat} {K : List Nd} (h : KidR gs base w g c K) {k : Nat} (hk : k ≤ K.length) :
    ∃ vs, vs.length = K.length ∧ w.ownsRow base 56 2 (.slice (some ⟨g, 0, none⟩) k c) k (flatV (K.take k) (vs.take k)) ∧ NdL (vw (g :: gs) w) w.heap.size K vs ∧ w.rangeAt g 0 (flatV K vs) := by
  obtain ⟨vs, hN, hr⟩ := h.read
  obtain ⟨h1, h2, h3, cur, hrow, hs⟩ := h.row
  have hl := hN.len
  refine ⟨vs, hl, ⟨?_, .inr ⟨g, c, cur, rfl, h3, hrow, by omega, h2, hs, ?_⟩⟩, hN, hr⟩
  · rw [flatV_len (by simp [hl]), List.length_take]
    omega
  · apply List.ext_getElem?
    intro j
    rw [← flatV_take k hl, List.getElem?_take, List.getElem?_take]
    by_cases hj : j < 2 * k
    · rw [if_pos (by omega), if_pos hj]
      obtain ⟨u, hu⟩ : ∃ u, (flatV K vs)[j]? = some u := ⟨_, List.getElem?_eq_getElem (by rw [flatV_len hl]; omega)⟩
      have := hr j u hu
      rw [Nat.zero_add, cell_of_row w g j cur _ (0, 0) hrow, ← Array.getElem?_toList] at this
      rw [this, hu]
    · rw [if_neg (by omega), if_neg hj]
theorem KidR.tail {gs : List Nat} {base : Nat} {w : World} {g c : Nat} {K : List Nd} {vs : List Value} (h : KidR gs base w g c K) (hl : vs.length = K.length) (hr : w.rangeAt g 0 (flatV K vs)) {k : Nat} (hk : k ≤ K.length) (A : Option Addr) (hA : A = if c = k then some ⟨g, 0, none⟩ else some ⟨g, k * 2, none⟩) :
    Rd w w.heap.size A (2 * (K.length - k)) (flatV (K.drop k) (vs.drop k)) := by
  obtain ⟨h1, h2, h3, cur, hrow, hs⟩ := h.row
  refine ⟨by rw [flatV_len (by simp [hl])]; simp, fun hn => ⟨g, k * 2, ?_, hrow.lt, fun j u hu => ?_⟩⟩
  · rw [hA, if_neg (by omega)]
  · rw [← flatV_drop k hl, List.getElem?_drop] at hu
    have := hr _ u hu
    rwa [Nat.zero_add, show 2 * k + j = k * 2 + j by omega] at this
theorem one_of {w : World} {B : Nat} {F : List Nd} {vs : List Value} (h : NdL w B F vs) : ∀ u ∈ flatV F vs, u.oneCell' = true := flat_one h
theorem two_list {l : List Nd} (h : l.length = 2) (h0 : 0 < l.length) (h1 : 1 < l.length) : l = [l[0], l[1]] := by
  match l, h with
  | [x, y], _ => rfl
theorem cut_two (p1 : List Nd) (q y x : Nd) (s : List Nd) : ((p1 ++ [q] ++ y :: s).set p1.length x).take (p1.length + 1) ++ ((p1 ++ [q] ++ y :: s).set p1.length x).drop (p1.length + 1 + 1) = p1 ++ x :: s := by
  rw [List.append_assoc, List.singleton_append, set_mid]
  have e1 : (p1 ++ x :: y :: s).take (p1.length + 1) = p1 ++ [x] := by
    rw [show p1 ++ x :: y :: s = (p1 ++ [x]) ++ y :: s by simp]
    exact List.take_left' (by simp)
  have e2 : (p1 ++ x :: y :: s).drop (p1.length + 1 + 1) = s := by
    rw [show p1 ++ x :: y :: s = (p1 ++ [x, y]) ++ s by simp]
    exact List.drop_left' (by simp)
  rw [e1, e2]
  simp
theorem kids_ne {x : Nd} : x.kids.length ≤ 3 := by cases x <;> simp [Nd.kids]

set_option maxRecDepth 100000 in
set_option maxHeartbeats 8000000 in
theorem mend_any (gs : List Nat) (p : List Nd) (y : Nd) (s : List Nd) (A : Option Addr) (n c : Nat) (w : World) (hcl : Cells gs w) (hS : SlN (vw gs w) w.heap.size A n c (p ++ y :: s)) (hn : n = 2 ∨ n = 3) (hy : y.kids.length = 1)
    (hz : ∀ z ∈ p ++ s, z.kids.length = 2 ∨ z.kids.length = 3) :
    Calls Try.prog 56 #[.slice A n c, .int .i64 (p.length : Int)] w fun e w' => Below w.heap.size w w' ∧ ∃ A' n' c', e = .returned (.slice A' n' c') ∧ SlN (vw gs w') w'.heap.size A' n' c' (mendN p y s) := by
  have hnl : p.length + 1 + s.length = n := by have := hS.1; simp at this; omega
  have Hnl := Lib.hid hnl
  obtain ⟨b, o, rfl⟩ := hS.ad (by omega)
  obtain ⟨KL, hK⟩ : ∃ KL, KL = p ++ y :: s := ⟨_, rfl⟩
  have HK := Lib.hid hK
  rw [← hK] at hS
  obtain ⟨m, hm⟩ : ∃ m, m = p.length := ⟨_, rfl⟩
  have Hm := Lib.hid hm
  rw [← hm]
  have hmn : m < n := by omega
  have hKm : KL[m]? = some y := by rw [hK, hm]; simp
  have hKl : KL.length = n := hS.1
  have Hn := Lib.hid hn
  have Hz := Lib.hid hz
  obtain ⟨y0, hy0⟩ : ∃ y0, y.kids = [y0] := by
    match y.kids, hy with
    | [y0], _ => exact ⟨y0, rfl⟩
  obtain ⟨_, hnc, hcm, us, hN1, hR1⟩ := @_root_.id _ hS
  have hN1u := hN1.keep (vw_un hcl)
  have hR1u := vw_un hcl _ _ _ hR1
  have h0n : 0 < n := by omega
  have h3n : n ≤ 3 := by omega
  clear hnl hK hm hn hz
  go_enter Try.func56, Try.ntmps56
  go_upto_region 2 with (at_builtin; refine wpList_append_nd (by kernel_rfl) (.const (.slice none 0 0)) (.tmp 9) rfl w.heap.size none 0 0 [] [] rfl (World.ownsRow_nil _ _ _ _) w.heap.size (some ⟨b, o, none⟩) n c KL us rfl hN1u hR1u (by omega) (Nat.le_refl _) rfl ?_; intro A8 c8 w8 hown8 hgr8 _; rw [Nat.zero_add, List.nil_append, List.nil_append] at hown8)
  try simp only [Act.put]
  have hB8 : Below w.heap.size w w8 := (Below.refl _ _).grown hgr8 (Nat.le_refl _) (fun k hk => by simp [Value.ownBlock] at hk)
  have hc8 := hcl.below hB8
  have hkp8 := vw_grown hcl hc8 hgr8 (B := w.heap.size) (fun k hk => by simp [Value.ownBlock] at hk) (Nat.le_refl _)
  have hc8l := hc8.own hown8
  have hS8 := hS.keep hkp8
  obtain ⟨g, hA8, hgw, hKid⟩ := KidR.of_own hown8 hKl h0n (NdL.keep (vw_more hc8l (B := w.heap.size) (fun k hk => own_blockT hown8 k (by simpa using hk)) hB8.size) KL us (hN1.keep hkp8))
  subst hA8
  have hSg := hS8.keep (vw_more (l := [g]) (hKid.hcl hc8) (B := w.heap.size) (B' := w8.heap.size) (fun k hk => by simp at hk; omega) hB8.size)
  refine wp_gen (fun wx => Below w.heap.size w wx ∧ KidR gs w.heap.size wx g c8 KL ∧ SlN (vw (g :: gs) wx) wx.heap.size (some ⟨b, o, none⟩) n c KL) ⟨hB8, hKid, hSg⟩ ?_
  clear hSg hKid hS8 hc8l hkp8 hc8 hB8 hgr8 hown8 hR1u hN1u hR1 hN1 hS
  rintro w1 ⟨hB, hKid, hSg⟩
  have hc1 := hcl.below hB
  have hcg := hKid.hcl hc1
  obtain ⟨v1, hv1, r1, k1, _⟩ := hSg.at0 hcg (i := m) (by omega)
  have hyv : NdV (vw (g :: gs) w1) w1.heap.size y v1 := by
    have e : KL[m] = y := by rw [List.getElem?_eq_getElem (by omega)] at hKm; exact Option.some.inj hKm
    rwa [e] at hv1
  obtain ⟨Al, cl, rfl, hSl⟩ := hyv.kids
  rw [hy0] at hSl
  obtain ⟨bl, ol, rfl⟩ := hSl.ad (by simp)
  clear hv1 hyv r1
  have z1 : (m : Int) < (n : Int) := by omega
  by_cases hm1 : 0 < m
  · have hm0 : (0 : Int) < (m : Int) := by omega
    obtain ⟨a, ha⟩ : ∃ a, m = a + 1 := ⟨m - 1, by omega⟩
    have Ha := Lib.hid ha
    have e1 : (m : Int) - 1 = (a : Int) := by omega
    have e2 : IntKind.i64.wrap (a : Int) = (a : Int) := by rw [IntKind.wrap_i64]; omega
    have z2 : (a : Int) < (n : Int) := by omega
    clear ha
    have hal : a < KL.length := by have := Ha.out; omega
    obtain ⟨vq, hvq, rq, kq, _⟩ := hSg.at0 hcg (i := a) hal
    obtain ⟨q, hq⟩ : ∃ q, q = KL[a] := ⟨_, rfl⟩
    rw [← hq] at hvq rq
    obtain ⟨p1, hp1⟩ : ∃ p1, p = p1 ++ [q] ∧ p1.length = a := by
      have hpl : p.length = a + 1 := by rw [← Hm.out, Ha.out]
      refine ⟨p.take a, ?_, by rw [List.length_take]; omega⟩
      have e : q = p[a] := by rw [hq]; simp only [HK.out]; rw [List.getElem_append_left]
      rw [e]
      conv => lhs; rw [← List.take_append_drop a p]
      congr 1
      rw [List.drop_eq_getElem_cons (by omega), List.drop_of_length_le (by omega)]
    obtain ⟨hp1, hp1l⟩ := hp1
    have hql : q.kids.length = 2 ∨ q.kids.length = 3 := Hz.out q (by rw [hp1]; simp)
    obtain ⟨Aq, cq, rfl, hSq⟩ := hvq.kids
    obtain ⟨bq, oq, rfl⟩ := hSq.ad (by omega)
    have hqc := hSq.2.1
    have Hp1 := Lib.hid hp1
    have Hp1l := Lib.hid hp1l
    have Hql := Lib.hid hql
    have Hq := Lib.hid hq
    clear hq hp1 hp1l hql rq hvq
    obtain ⟨nq, hnq⟩ : ∃ nq, nq = q.kids.length := ⟨_, rfl⟩
    rw [← hnq] at hSq hqc kq
    have Hnq := Lib.hid hnq
    clear hnq
    by_cases h3 : nq = 3
    · have g2 : (2 : Int) ≤ (cq : Int) := by omega
      have g3 : (2 : Int) ≤ (nq : Int) := by omega
      have g4 : (nq : Int) ≤ (cq : Int) := by omega
      have z3 : (n : Int) ≤ (c8 : Int) := by have := hKid.row.1; omega
      have hqk : 2 < q.kids.length := by have := Hnq.out; omega
      have h1k := (hSq.take (k := 2) (c' := 2) (by omega) (Nat.le_refl _) (by omega))
      have hl2 : (q.kids.take 2).length = 2 := h1k.1
      have hK1 := hKid.set hal (h1k.node (by omega))
      rw [ofKids_id (by omega)] at hK1
      go_upto_region 7 with ((with_reducible show wpList _ _ _ (⟨none, Op.store 56 _ _, _, _, _, _⟩ :: _) _ _); refine wpList_store_mid rfl 56 (.tmp 33) (.tmp 32) rfl g (a * 2) #[.int .i64 0, .slice (some ⟨bq, oq, none⟩) 2 2] rfl rfl (hKid.there hal) sizeNd (by simp [Value.oneCell']) ?_)
      try simp only [Act.put]
      refine wp_gen (fun wx => Below w.heap.size w wx ∧ KidR gs w.heap.size wx g c8 (KL.set a (ofKids (q.kids.take 2))) ∧ SlN (vw (g :: gs) wx) wx.heap.size (some ⟨bq, oq, none⟩) nq cq q.kids ∧ SlN (vw (g :: gs) wx) wx.heap.size (some ⟨bl, ol, none⟩) 1 cl [y0]) ⟨below_setCells hgw _ _ _ hB, hK1, by rw [vw_setCells, size_setCellsT]; exact hSq, by rw [vw_setCells, size_setCellsT]; exact hSl⟩ ?_
      clear hK1 hSq hSl hKid hSg hc1 hcg hB k1 kq h1k
      rintro w2 ⟨hB2, hKid, hSq, hSl⟩
      have hc2 := hcl.below hB2
      have hcg := hKid.hcl hc2
      obtain ⟨u2, hu2, r2, _, hlt2⟩ := hSq.at0 hcg (i := 2) hqk
      obtain ⟨u0, hu0, r0, _, hlt0⟩ := hSl.at0 hcg (i := 0) (by simp)
      have Hq2 := Lib.hid (show q.kids.drop 2 = [q.kids[2]] by rw [List.drop_eq_getElem_cons hqk, List.drop_of_length_le (by have := Hnq.out; omega)])
      generalize q.kids[2] = q2 at *
      rw [show ([y0] : List Nd)[0] = y0 from rfl] at hu0 r0
      have hun := Try.underlying56
      have hS0 : (Try.prog.info? 56).map (·.size) = some 2 := sizeNd
      have hkeep : ∀ wx : World, Below w2.heap.size w2 wx → wx.rangeAt bq (oq + 4) [iv q2.id, u2] ∧ wx.rangeAt bl (ol) [iv y0.id, u0] := fun wx hb => ⟨rk hb r2 hlt2, rk hb r0 hlt0⟩
      refine beginT (fun wx => wx.rangeAt bq (oq + 4) [iv q2.id, u2] ∧ wx.rangeAt bl (ol) [iv y0.id, u0]) 11 (by kernel_rfl) ?_
      have hS := hkeep _ (c_drew (c_refl _))
      refine takeD 0 (some 34) (.slice (some ⟨g, 0, none⟩) n c8) rfl rfl (by kernel_rfl) (by kernel_rfl) (by kernel_rfl) (by kernel_rfl) (fun _ _ _ h => h) (Or.inl ⟨by kernel_rfl, fun wx hSw => by go_simp⟩) hS ?_
      simp only [Act.put, List.setIfInBounds_toArray, List.set_cons_zero, List.set_cons_succ]
      refine takeD 1 (some 35) (.int .i64 (m : Int)) rfl rfl (by kernel_rfl) (by kernel_rfl) (by kernel_rfl) (by kernel_rfl) (fun _ _ _ h => h) (Or.inl ⟨by kernel_rfl, fun wx hSw => by go_simp⟩) hS ?_
      simp only [Act.put, List.setIfInBounds_toArray, List.set_cons_zero, List.set_cons_succ]
      refine takeD 2 (some 36) (.slice (some ⟨bq, oq, none⟩) nq cq) rfl rfl (by kernel_rfl) (by kernel_rfl) (by kernel_rfl) (by kernel_rfl) (fun _ _ _ h => h) (Or.inl ⟨by kernel_rfl, fun wx hSw => by go_simp⟩) hS ?_
      simp only [Act.put, List.setIfInBounds_toArray, List.set_cons_zero, List.set_cons_succ]
      refine takeD 3 (some 37) (.pointer (some ⟨bq, oq + 4, none⟩)) rfl rfl (by kernel_rfl) (by kernel_rfl) (by kernel_rfl) (by kernel_rfl) (fun _ _ _ h => h) (Or.inl ⟨by kernel_rfl, fun wx hSw => by go_simp⟩) hS ?_
      simp only [Act.put, List.setIfInBounds_toArray, List.set_cons_zero, List.set_cons_succ]
      refine loadT 4 (some 38) 56 (.tmp 37) bq (oq + 4) [iv q2.id, u2] rfl rfl (by kernel_rfl) (by kernel_rfl) (by kernel_rfl) (by kernel_rfl) rfl (by kernel_rfl) rfl (fun wx hSw => hSw.1) hun rfl hS0 (fun _ _ _ h => h) hS ?_
      simp only [Act.put, List.setIfInBounds_toArray, List.set_cons_zero, List.set_cons_succ]
      refine takeD 5 (some 39) (.slice (some ⟨bl, ol, none⟩) 1 cl) rfl rfl (by kernel_rfl) (by kernel_rfl) (by kernel_rfl) (by kernel_rfl) (fun _ _ _ h => h) (Or.inl ⟨by kernel_rfl, fun wx hSw => by go_simp⟩) hS ?_
      simp only [Act.put, List.setIfInBounds_toArray, List.set_cons_zero, List.set_cons_succ]
      refine takeD 6 (some 40) (.pointer (some ⟨bl, ol, none⟩)) rfl rfl (by kernel_rfl) (by kernel_rfl) (by kernel_rfl) (by kernel_rfl) (fun _ _ _ h => h) (Or.inl ⟨by kernel_rfl, fun wx hSw => by go_simp⟩) hS ?_
      simp only [Act.put, List.setIfInBounds_toArray, List.set_cons_zero, List.set_cons_succ]
      refine loadT 7 (some 41) 56 (.tmp 40) bl (ol) [iv y0.id, u0] rfl rfl (by kernel_rfl) (by kernel_rfl) (by kernel_rfl) (by kernel_rfl) rfl (by kernel_rfl) rfl (fun wx hSw => hSw.2) hun rfl hS0 (fun _ _ _ h => h) hS ?_
      simp only [Act.put, List.setIfInBounds_toArray, List.set_cons_zero, List.set_cons_succ]
      have hx0 : Below w2.heap.size w2 w2.drew := c_drew (c_refl _)
      have hK0 := hKid.below hc2 hx0
      have hB0 := hB2.drew
      have hF : NdL (vw (g :: gs) w2.drew) w2.drew.heap.size [q2, y0] [u2, u0] := NdL.keep (vw_keep (w := w2) (w' := w2.drew) hcg (fun k hk => hcg k hk) (fun _ _ _ hr => hr.drew)) _ _ (show NdL (vw (g :: gs) w2) w2.heap.size [q2, y0] [u2, u0] from ⟨hu2, hu0, trivial⟩)
      generalize w2.drew = x0 at *
      have hcx := hcl.below hB0
      have hcgx := hK0.hcl hcx
      have hnew := SlN.newN hcgx [q2, y0] [u2, u0] #[iv q2.id, u2, iv y0.id, u0] hF rfl (by simp)
      refine oneT 8 (by kernel_rfl) rfl (fun K hK => ?_)
      go_simp
      refine hK.out _ _ (fun _ => hkeep _ (c_alloc hx0 _)) ?_
      clear hK K
      have hal1 := d_al x0 (.cells #[iv q2.id, u2, iv y0.id, u0] 56)
      have hK1 := hK0.below hcx hal1
      have hB1 := hB0.alloc hB0.size (.cells #[iv q2.id, u2, iv y0.id, u0] 56)
      have hx1 := c_call hx0 hal1
      generalize x0.heap.size = gn at *
      generalize x0.alloc (.cells #[iv q2.id, u2, iv y0.id, u0] 56) = x1 at *
      have hS1 := hkeep x1 hx1
      refine takeD 9 (some 43) (.agg #[.int .i64 0, .slice (some ⟨gn, 0, none⟩) 2 2]) rfl rfl (by kernel_rfl) (by kernel_rfl) (by kernel_rfl) (by kernel_rfl) (fun _ _ _ h => h) (Or.inl ⟨by kernel_rfl, fun wx hSw => by go_simp⟩) hS1 ?_
      simp only [Act.put, List.setIfInBounds_toArray, List.set_cons_zero, List.set_cons_succ]
      refine oneT 10 (by kernel_rfl) rfl (fun K hK => ?_)
      go_simp
      refine hK.out _ _ (fun _ => hS1) ?_
      clear hK K
      have hnd := hnew.node (by simp)
      have hK2 := hK1.set (i := m) (by first | omega | (simp only [List.length_set]; omega)) hnd
      rw [ofKids_id (by simp)] at hK2
      refine oneT 11 (by kernel_rfl) rfl (fun K hK => ?_)
      refine step_store_midT rfl rfl 56 (.tmp 44) (.tmp 43) rfl g (m * 2) #[.int .i64 0, .slice (some ⟨gn, 0, none⟩) 2 2] rfl rfl (hK1.there (i := m) (by first | omega | (simp only [List.length_set]; omega))) sizeNd (by simp [Value.oneCell']) ?_
      refine hK.out _ _ (fun h => absurd rfl h) ?_
      clear hK K
      refine doneT (by kernel_rfl) ?_ _
      have hB9 := below_setCells hgw [.int .i64 0, .slice (some ⟨gn, 0, none⟩) 2 2] (m * 2) x1 hB1
      have hfin := hK2.sl (hcl.below hB9) hcl.lt
      rw [show ((KL.set a (ofKids (q.kids.take 2))).set m (ofKids [q2, y0])).length = n by simp only [List.length_set]; exact hKl] at hfin
      rw [show (KL.set a (ofKids (q.kids.take 2))).set m (ofKids [q2, y0]) = mendN p y s by rw [Hp1.out, mend_pos3 (by rw [← Hnq.out]; exact h3), hy0, Hq2.out, HK.out, Hp1.out, Ha.out, ← Hp1l.out]; exact set_two _ _ _ _ _ _] at hfin
      go_wp2_with fail
      go_ret
      exact ⟨hB9, _, _, _, rfl, hfin⟩
    · have hn2 : nq = 2 := by have := Hql.out; have := Hnq.out; omega
      have z3 : (n : Int) ≤ (c8 : Int) := by have := hKid.row.1; omega
      have hqk0 : 0 < q.kids.length := by have := Hnq.out; omega
      have hqk1 : 1 < q.kids.length := by have := Hnq.out; omega
      obtain ⟨u1, hu1, r1, _, hlt1⟩ := hSq.at0 hcg (i := 0) hqk0
      obtain ⟨u2, hu2, r2, _, hlt2⟩ := hSq.at0 hcg (i := 1) hqk1
      obtain ⟨u0, hu0, r0, _, hlt0⟩ := hSl.at0 hcg (i := 0) (by simp)
      have Hq2 := Lib.hid (two_list (l := q.kids) (by have := Hnq.out; omega) hqk0 hqk1)
      have Hn2 := Lib.hid hn2
      clear hn2
      generalize q.kids[0] = q1 at *
      generalize q.kids[1] = q2 at *
      rw [show ([y0] : List Nd)[0] = y0 from rfl] at hu0 r0
      go_upto_region 9 with fail
      try simp only [Act.put]
      have z5 : (1 : Int) < (nq : Int) := by have := Hn2.out; omega
      have z6 : (0 : Int) < (nq : Int) := by omega
      have z7 : ¬ nq = 0 := by omega
      have hun := Try.underlying56
      have hS0 : (Try.prog.info? 56).map (·.size) = some 2 := sizeNd
      have hkeep : ∀ wx : World, Below w1.heap.size w1 wx → wx.rangeAt bq (oq) [iv q1.id, u1] ∧ wx.rangeAt bq (oq + 2) [iv q2.id, u2] ∧ wx.rangeAt bl (ol) [iv y0.id, u0] := fun wx hb => ⟨rk hb r1 hlt1, rk hb r2 hlt2, rk hb r0 hlt0⟩
      refine beginT (fun wx => wx.rangeAt bq (oq) [iv q1.id, u1] ∧ wx.rangeAt bq (oq + 2) [iv q2.id, u2] ∧ wx.rangeAt bl (ol) [iv y0.id, u0]) 15 (by kernel_rfl) ?_
      have hS := hkeep _ (c_drew (c_refl _))
      refine takeD 0 (some 46) (.slice (some ⟨g, 0, none⟩) n c8) rfl rfl (by kernel_rfl) (by kernel_rfl) (by kernel_rfl) (by kernel_rfl) (fun _ _ _ h => h) (Or.inl ⟨by kernel_rfl, fun wx hSw => by go_simp⟩) hS ?_
      simp only [Act.put, List.setIfInBounds_toArray, List.set_cons_zero, List.set_cons_succ]
      refine takeD 1 (some 47) (.int .i64 (m : Int)) rfl rfl (by kernel_rfl) (by kernel_rfl) (by kernel_rfl) (by kernel_rfl) (fun _ _ _ h => h) (Or.inl ⟨by kernel_rfl, fun wx hSw => by go_simp⟩) hS ?_
      simp only [Act.put, List.setIfInBounds_toArray, List.set_cons_zero, List.set_cons_succ]
      refine takeD 2 (some 48) (.int .i64 (a : Int)) rfl rfl (by kernel_rfl) (by kernel_rfl) (by kernel_rfl) (by kernel_rfl) (fun _ _ _ h => h) (Or.inl ⟨by kernel_rfl, fun wx hSw => by go_simp⟩) hS ?_
      simp only [Act.put, List.setIfInBounds_toArray, List.set_cons_zero, List.set_cons_succ]
      refine takeD 3 (some 49) (.slice (some ⟨bq, oq, none⟩) nq cq) rfl rfl (by kernel_rfl) (by kernel_rfl) (by kernel_rfl) (by kernel_rfl) (fun _ _ _ h => h) (Or.inl ⟨by kernel_rfl, fun wx hSw => by go_simp⟩) hS ?_
      simp only [Act.put, List.setIfInBounds_toArray, List.set_cons_zero, List.set_cons_succ]
      refine takeD 4 (some 50) (.pointer (some ⟨bq, oq, none⟩)) rfl rfl (by kernel_rfl) (by kernel_rfl) (by kernel_rfl) (by kernel_rfl) (fun _ _ _ h => h) (Or.inl ⟨by kernel_rfl, fun wx hSw => by go_simp⟩) hS ?_
      simp only [Act.put, List.setIfInBounds_toArray, List.set_cons_zero, List.set_cons_succ]
      refine loadT 5 (some 51) 56 (.tmp 50) bq (oq) [iv q1.id, u1] rfl rfl (by kernel_rfl) (by kernel_rfl) (by kernel_rfl) (by kernel_rfl) rfl (by kernel_rfl) rfl (fun wx hSw => hSw.1) hun rfl hS0 (fun _ _ _ h => h) hS ?_
      simp only [Act.put, List.setIfInBounds_toArray, List.set_cons_zero, List.set_cons_succ]
      refine takeD 6 (some 52) (.slice (some ⟨bq, oq, none⟩) nq cq) rfl rfl (by kernel_rfl) (by kernel_rfl) (by kernel_rfl) (by kernel_rfl) (fun _ _ _ h => h) (Or.inl ⟨by kernel_rfl, fun wx hSw => by go_simp⟩) hS ?_
      simp only [Act.put, List.setIfInBounds_toArray, List.set_cons_zero, List.set_cons_succ]
      refine takeD 7 (some 53) (.pointer (some ⟨bq, oq + 2, none⟩)) rfl rfl (by kernel_rfl) (by kernel_rfl) (by kernel_rfl) (by kernel_rfl) (fun _ _ _ h => h) (Or.inl ⟨by kernel_rfl, fun wx hSw => by go_simp⟩) hS ?_
      simp only [Act.put, List.setIfInBounds_toArray, List.set_cons_zero, List.set_cons_succ]
      refine loadT 8 (some 54) 56 (.tmp 53) bq (oq + 2) [iv q2.id, u2] rfl rfl (by kernel_rfl) (by kernel_rfl) (by kernel_rfl) (by kernel_rfl) rfl (by kernel_rfl) rfl (fun wx hSw => hSw.2.1) hun rfl hS0 (fun _ _ _ h => h) hS ?_
      simp only [Act.put, List.setIfInBounds_toArray, List.set_cons_zero, List.set_cons_succ]
      refine takeD 9 (some 55) (.slice (some ⟨bl, ol, none⟩) 1 cl) rfl rfl (by kernel_rfl) (by kernel_rfl) (by kernel_rfl) (by kernel_rfl) (fun _ _ _ h => h) (Or.inl ⟨by kernel_rfl, fun wx hSw => by go_simp⟩) hS ?_
      simp only [Act.put, List.setIfInBounds_toArray, List.set_cons_zero, List.set_cons_succ]
      refine takeD 10 (some 56) (.pointer (some ⟨bl, ol, none⟩)) rfl rfl (by kernel_rfl) (by kernel_rfl) (by kernel_rfl) (by kernel_rfl) (fun _ _ _ h => h) (Or.inl ⟨by kernel_rfl, fun wx hSw => by go_simp⟩) hS ?_
      simp only [Act.put, List.setIfInBounds_toArray, List.set_cons_zero, List.set_cons_succ]
      refine loadT 11 (some 57) 56 (.tmp 56) bl (ol) [iv y0.id, u0] rfl rfl (by kernel_rfl) (by kernel_rfl) (by kernel_rfl) (by kernel_rfl) rfl (by kernel_rfl) rfl (fun wx hSw => hSw.2.2) hun rfl hS0 (fun _ _ _ h => h) hS ?_
      simp only [Act.put, List.setIfInBounds_toArray, List.set_cons_zero, List.set_cons_succ]
      have hx0 : Below w1.heap.size w1 w1.drew := c_drew (c_refl _)
      have hK0 := hKid.below hc1 hx0
      have hB0 := hB.drew
      have hF : NdL (vw (g :: gs) w1.drew) w1.drew.heap.size [q1, q2, y0] [u1, u2, u0] := NdL.keep (vw_keep (w := w1) (w' := w1.drew) hcg (fun k hk => hcg k hk) (fun _ _ _ hr => hr.drew)) _ _ (show NdL (vw (g :: gs) w1) w1.heap.size [q1, q2, y0] [u1, u2, u0] from ⟨hu1, hu2, hu0, trivial⟩)
      generalize w1.drew = x0 at *
      have hcx := hcl.below hB0
      have hcgx := hK0.hcl hcx
      have hnew := SlN.newN hcgx [q1, q2, y0] [u1, u2, u0] #[iv q1.id, u1, iv q2.id, u2, iv y0.id, u0] hF rfl (by simp)
      refine oneT 12 (by kernel_rfl) rfl (fun K hK => ?_)
      go_simp
      refine hK.out _ _ (fun _ => hkeep _ (c_alloc hx0 _)) ?_
      clear hK K
      have hal1 := d_al x0 (.cells #[iv q1.id, u1, iv q2.id, u2, iv y0.id, u0] 56)
      have hK1 := hK0.below hcx hal1
      have hB1 := hB0.alloc hB0.size (.cells #[iv q1.id, u1, iv q2.id, u2, iv y0.id, u0] 56)
      have hx1 := c_call hx0 hal1
      generalize x0.heap.size = gn at *
      generalize x0.alloc (.cells #[iv q1.id, u1, iv q2.id, u2, iv y0.id, u0] 56) = x1 at *
      have hS1 := hkeep x1 hx1
      refine takeD 13 (some 59) (.agg #[.int .i64 0, .slice (some ⟨gn, 0, none⟩) 3 3]) rfl rfl (by kernel_rfl) (by kernel_rfl) (by kernel_rfl) (by kernel_rfl) (fun _ _ _ h => h) (Or.inl ⟨by kernel_rfl, fun wx hSw => by go_simp⟩) hS1 ?_
      simp only [Act.put, List.setIfInBounds_toArray, List.set_cons_zero, List.set_cons_succ]
      refine oneT 14 (by kernel_rfl) rfl (fun K hK => ?_)
      go_simp
      refine hK.out _ _ (fun _ => hS1) ?_
      clear hK K
      have hnd := hnew.node (by simp)
      have hK2 := hK1.set (i := a) (by first | omega | (simp only [List.length_set]; omega)) hnd
      rw [ofKids_id (by simp)] at hK2
      refine oneT 15 (by kernel_rfl) rfl (fun K hK => ?_)
      refine step_store_midT rfl rfl 56 (.tmp 60) (.tmp 59) rfl g (a * 2) #[.int .i64 0, .slice (some ⟨gn, 0, none⟩) 3 3] rfl rfl (hK1.there (i := a) (by first | omega | (simp only [List.length_set]; omega))) sizeNd (by simp [Value.oneCell']) ?_
      refine hK.out _ _ (fun h => absurd rfl h) ?_
      clear hK K
      refine doneT (by kernel_rfl) ?_ _
      go_wp2_with fail
      refine wp_gen (fun wx => Below w.heap.size w wx ∧ KidR gs w.heap.size wx g c8 (KL.set a (ofKids [q1, q2, y0]))) ⟨below_setCells hgw [.int .i64 0, .slice (some ⟨gn, 0, none⟩) 3 3] (a * 2) x1 hB1, hK2⟩ ?_
      clear hK2 hK1 hB1 hnd hnew hK0 hB0 hF hcgx hcx hal1 hx1 hx0 hS1 hkeep hSg hSq hSl hc1 hcg hB hKid k1 kq
      rintro w3 ⟨hB3, hKid⟩
      have hc3 := hcl.below hB3
      have hcg := hKid.hcl hc3
      obtain ⟨KM, hKM⟩ : ∃ KM, KM = KL.set a (ofKids [q1, q2, y0]) := ⟨_, rfl⟩
      rw [← hKM] at hKid
      have hMl : KM.length = n := by rw [hKM, List.length_set]; exact hKl
      have HKM := Lib.hid hKM
      clear hKM
      have y0w : IntKind.i64.wrap ((m : Int) + 1) = (m : Int) + 1 := by rw [IntKind.wrap_i64]; omega
      have y1 : ((m : Int) + 1).toNat = m + 1 := by omega
      have y2 : (0 : Int) ≤ (m : Int) + 1 := by omega
      have y3 : (m : Int) + 1 ≤ (n : Int) := by omega
      have y4 : (m : Int) ≤ (c8 : Int) := by omega
      have y5 : (0 : Int) ≤ (m : Int) := by omega
      obtain ⟨vs, hvl, hpre, hNv, hrg⟩ := hKid.pre (k := m) (by omega)
      have hm1v : (vs.take m).length = (KM.take m).length := by simp [hvl]
      obtain ⟨At, hAt⟩ : ∃ At : Option Addr, At = if c8 = m + 1 then some ⟨g, 0, none⟩ else some ⟨g, (m + 1) * 2, none⟩ := ⟨_, rfl⟩
      have htl := hKid.tail hvl hrg (k := m + 1) (by omega) At hAt
      rw [hMl] at htl
      have hNt : NdL (vw (g :: gs) w3) w3.heap.size (KM.drop (m + 1)) (vs.drop (m + 1)) := by
        have h := hNv
        rw [← List.take_append_drop (m + 1) KM] at h
        have h2 := h.split.2
        rwa [show (KM.take (m + 1)).length = m + 1 by rw [List.length_take]; omega] at h2
      have hNp : NdL (vw (g :: gs) w3) w3.heap.size (KM.take m) (vs.take m) := by
        have h := hNv
        rw [← List.take_append_drop m KM] at h
        have h2 := h.split.1
        rwa [show (KM.take m).length = m by rw [List.length_take]; omega] at h2
      have HE := Lib.hid (show KM.take m ++ KM.drop (m + 1) = mendN p y s by
        rw [Hp1.out, mend_pos2 (by rw [← Hnq.out]; exact h3), hy0, HKM.out, HK.out, Hp1.out, Ha.out, ← Hp1l.out, Hq2.out]
        exact cut_two _ _ _ _ _)
      have hwo := one_of hNt
      have hlb := hB3.size
      clear hrg hNv HKM
      by_cases hcc : c8 = m + 1
      · have y6 : ¬ ((m : Int) + 1 < (m : Int)) := by omega
        have hAt2 : At = (some ⟨g, 0, none⟩) := by rw [hAt, if_pos hcc]
        rw [hAt2] at htl
        clear hAt hAt2
        have hkeep : ∀ wx : World, Below w3.heap.size w3 wx → True := fun _ _ => trivial
        refine beginT (fun _ => True) 8 (by kernel_rfl) ?_
        have hS := hkeep _ (c_drew (c_refl _))
        refine takeD 0 (some 61) (.slice (some ⟨g, 0, none⟩) n c8) rfl rfl (by kernel_rfl) (by kernel_rfl) (by kernel_rfl) (by kernel_rfl) (fun _ _ _ h => h) (Or.inl ⟨by kernel_rfl, fun wx hSw => by go_simp⟩) hS ?_
        simp only [Act.put, List.setIfInBounds_toArray, List.set_cons_zero, List.set_cons_succ]
        refine takeD 1 (some 62) (.int .i64 (m : Int)) rfl rfl (by kernel_rfl) (by kernel_rfl) (by kernel_rfl) (by kernel_rfl) (fun _ _ _ h => h) (Or.inl ⟨by kernel_rfl, fun wx hSw => by go_simp⟩) hS ?_
        simp only [Act.put, List.setIfInBounds_toArray, List.set_cons_zero, List.set_cons_succ]
        refine takeD 2 (some 63) (.slice (some ⟨g, 0, none⟩) m c8) rfl rfl (by kernel_rfl) (by kernel_rfl) (by kernel_rfl) (by kernel_rfl) (fun _ _ _ h => h) (Or.inl ⟨by kernel_rfl, fun wx hSw => by go_simp⟩) hS ?_
        simp only [Act.put, List.setIfInBounds_toArray, List.set_cons_zero, List.set_cons_succ]
        refine takeD 3 (some 64) (.slice (some ⟨g, 0, none⟩) n c8) rfl rfl (by kernel_rfl) (by kernel_rfl) (by kernel_rfl) (by kernel_rfl) (fun _ _ _ h => h) (Or.inl ⟨by kernel_rfl, fun wx hSw => by go_simp⟩) hS ?_
        simp only [Act.put, List.setIfInBounds_toArray, List.set_cons_zero, List.set_cons_succ]
        refine takeD 4 (some 65) (.int .i64 (m : Int)) rfl rfl (by kernel_rfl) (by kernel_rfl) (by kernel_rfl) (by kernel_rfl) (fun _ _ _ h => h) (Or.inl ⟨by kernel_rfl, fun wx hSw => by go_simp⟩) hS ?_
        simp only [Act.put, List.setIfInBounds_toArray, List.set_cons_zero, List.set_cons_succ]
        refine takeD 5 (some 66) (.int .i64 ((m : Int) + 1)) rfl rfl (by kernel_rfl) (by kernel_rfl) (by kernel_rfl) (by kernel_rfl) (fun _ _ _ h => h) (Or.inl ⟨by kernel_rfl, fun wx hSw => by go_simp⟩) hS ?_
        simp only [Act.put, List.setIfInBounds_toArray, List.set_cons_zero, List.set_cons_succ]
        refine takeD 6 (some 67) (.slice (some ⟨g, 0, none⟩) (n - (m + 1)) (c8 - (m + 1))) rfl rfl (by kernel_rfl) (by kernel_rfl) (by kernel_rfl) (by kernel_rfl) (fun _ _ _ h => h) (Or.inl ⟨by kernel_rfl, fun wx hSw => by go_simp⟩) hS ?_
        simp only [Act.put, List.setIfInBounds_toArray, List.set_cons_zero, List.set_cons_succ]
        have hx0 : Below w3.heap.size w3 w3.drew := c_drew (c_refl _)
        have hpre0 := own_below hpre hx0
        have htl0 := d_rd htl hx0
        have hcx := hcl.below hB3.drew
        have hcgx := hcg.below hx0
        have hNp0 := NdL.keep (vw_keep hcg hcgx (fun _ _ _ hr => hr.below hx0)) _ _ hNp
        have hNt0 := NdL.keep (vw_keep hcg hcgx (fun _ _ _ hr => hr.below hx0)) _ _ hNt
        have hB0 := hB3.drew
        have hsx : w3.heap.size = w3.drew.heap.size := rfl
        generalize w3.drew = x0 at *
        refine oneT 7 (by kernel_rfl) rfl (fun K hK => ?_)
        refine step_append_nd (by kernel_rfl) (some 68) rfl (.tmp 63) (.tmp 67) rfl w.heap.size (some ⟨g, 0, none⟩) m c8 (KM.take m) (vs.take m) rfl hpre0 x0.heap.size (some ⟨g, 0, none⟩) (n - (m + 1)) (c8 - (m + 1)) (KM.drop (m + 1)) (vs.drop (m + 1)) rfl hwo htl0 (by omega) (by omega) hm1v ?_
        intro A9 c9 w9 hown9 hgr9 hat9
        have hB9 := hB0.grown hgr9 hB0.size (fun k hk => by simp [Value.ownBlock] at hk; omega)
        have hc9 := hcl.below hB9
        have hc9l := hc9.own hown9
        have hs9 := hgr9.size
        have hst := vw_step (v := .slice (some ⟨g, 0, none⟩) m c8) (gs := gs) hcgx hc9 hc9l hgr9 hat9 (B := w3.heap.size) (by omega)
        have hNb := NdL.keep hst _ _ hNp0
        have hNc := NdL.keep hst _ _ hNt0
        have hNall := (NdL.keep (vw_less hc9l) _ _ hNb).app (NdL.keep (vw_less hc9l) _ _ hNc)
        have hfin := SlN.of_own (own_vw hown9 hcl.lt) (by rw [vw_size]; exact hNall.more (by omega))
        rw [vw_size, HE.out] at hfin
        refine hK.out _ _ (fun _ => trivial) ?_
        clear hK K
        simp only [Act.put, List.setIfInBounds_toArray, List.set_cons_zero, List.set_cons_succ]
        refine oneT 8 (by kernel_rfl) rfl (fun K hK => ?_)
        go_simp
        refine hK.out _ _ (fun _ => trivial) ?_
        clear hK K
        refine doneT (by kernel_rfl) ?_ _
        go_wp2_with fail
        go_ret
        exact ⟨hB9, _, _, _, rfl, hfin⟩
      · have y6 : ¬ ((m : Int) + 1 < (m : Int)) := by omega
        have hAt2 : At = (some ⟨g, (m + 1) * 2, none⟩) := by rw [hAt, if_neg hcc]
        rw [hAt2] at htl
        clear hAt hAt2
        have hkeep : ∀ wx : World, Below w3.heap.size w3 wx → True := fun _ _ => trivial
        refine beginT (fun _ => True) 8 (by kernel_rfl) ?_
        have hS := hkeep _ (c_drew (c_refl _))
        refine takeD 0 (some 61) (.slice (some ⟨g, 0, none⟩) n c8) rfl rfl (by kernel_rfl) (by kernel_rfl) (by kernel_rfl) (by kernel_rfl) (fun _ _ _ h => h) (Or.inl ⟨by kernel_rfl, fun wx hSw => by go_simp⟩) hS ?_
        simp only [Act.put, List.setIfInBounds_toArray, List.set_cons_zero, List.set_cons_succ]
        refine takeD 1 (some 62) (.int .i64 (m : Int)) rfl rfl (by kernel_rfl) (by kernel_rfl) (by kernel_rfl) (by kernel_rfl) (fun _ _ _ h => h) (Or.inl ⟨by kernel_rfl, fun wx hSw => by go_simp⟩) hS ?_
        simp only [Act.put, List.setIfInBounds_toArray, List.set_cons_zero, List.set_cons_succ]
        refine takeD 2 (some 63) (.slice (some ⟨g, 0, none⟩) m c8) rfl rfl (by kernel_rfl) (by kernel_rfl) (by kernel_rfl) (by kernel_rfl) (fun _ _ _ h => h) (Or.inl ⟨by kernel_rfl, fun wx hSw => by go_simp⟩) hS ?_
        simp only [Act.put, List.setIfInBounds_toArray, List.set_cons_zero, List.set_cons_succ]
        refine takeD 3 (some 64) (.slice (some ⟨g, 0, none⟩) n c8) rfl rfl (by kernel_rfl) (by kernel_rfl) (by kernel_rfl) (by kernel_rfl) (fun _ _ _ h => h) (Or.inl ⟨by kernel_rfl, fun wx hSw => by go_simp⟩) hS ?_
        simp only [Act.put, List.setIfInBounds_toArray, List.set_cons_zero, List.set_cons_succ]
        refine takeD 4 (some 65) (.int .i64 (m : Int)) rfl rfl (by kernel_rfl) (by kernel_rfl) (by kernel_rfl) (by kernel_rfl) (fun _ _ _ h => h) (Or.inl ⟨by kernel_rfl, fun wx hSw => by go_simp⟩) hS ?_
        simp only [Act.put, List.setIfInBounds_toArray, List.set_cons_zero, List.set_cons_succ]
        refine takeD 5 (some 66) (.int .i64 ((m : Int) + 1)) rfl rfl (by kernel_rfl) (by kernel_rfl) (by kernel_rfl) (by kernel_rfl) (fun _ _ _ h => h) (Or.inl ⟨by kernel_rfl, fun wx hSw => by go_simp⟩) hS ?_
        simp only [Act.put, List.setIfInBounds_toArray, List.set_cons_zero, List.set_cons_succ]
        refine takeD 6 (some 67) (.slice (some ⟨g, (m + 1) * 2, none⟩) (n - (m + 1)) (c8 - (m + 1))) rfl rfl (by kernel_rfl) (by kernel_rfl) (by kernel_rfl) (by kernel_rfl) (fun _ _ _ h => h) (Or.inl ⟨by kernel_rfl, fun wx hSw => by go_simp⟩) hS ?_
        simp only [Act.put, List.setIfInBounds_toArray, List.set_cons_zero, List.set_cons_succ]
        have hx0 : Below w3.heap.size w3 w3.drew := c_drew (c_refl _)
        have hpre0 := own_below hpre hx0
        have htl0 := d_rd htl hx0
        have hcx := hcl.below hB3.drew
        have hcgx := hcg.below hx0
        have hNp0 := NdL.keep (vw_keep hcg hcgx (fun _ _ _ hr => hr.below hx0)) _ _ hNp
        have hNt0 := NdL.keep (vw_keep hcg hcgx (fun _ _ _ hr => hr.below hx0)) _ _ hNt
        have hB0 := hB3.drew
        have hsx : w3.heap.size = w3.drew.heap.size := rfl
        generalize w3.drew = x0 at *
        refine oneT 7 (by kernel_rfl) rfl (fun K hK => ?_)
        refine step_append_nd (by kernel_rfl) (some 68) rfl (.tmp 63) (.tmp 67) rfl w.heap.size (some ⟨g, 0, none⟩) m c8 (KM.take m) (vs.take m) rfl hpre0 x0.heap.size (some ⟨g, (m + 1) * 2, none⟩) (n - (m + 1)) (c8 - (m + 1)) (KM.drop (m + 1)) (vs.drop (m + 1)) rfl hwo htl0 (by omega) (by omega) hm1v ?_
        intro A9 c9 w9 hown9 hgr9 hat9
        have hB9 := hB0.grown hgr9 hB0.size (fun k hk => by simp [Value.ownBlock] at hk; omega)
        have hc9 := hcl.below hB9
        have hc9l := hc9.own hown9
        have hs9 := hgr9.size
        have hst := vw_step (v := .slice (some ⟨g, 0, none⟩) m c8) (gs := gs) hcgx hc9 hc9l hgr9 hat9 (B := w3.heap.size) (by omega)
        have hNb := NdL.keep hst _ _ hNp0
        have hNc := NdL.keep hst _ _ hNt0
        have hNall := (NdL.keep (vw_less hc9l) _ _ hNb).app (NdL.keep (vw_less hc9l) _ _ hNc)
        have hfin := SlN.of_own (own_vw hown9 hcl.lt) (by rw [vw_size]; exact hNall.more (by omega))
        rw [vw_size, HE.out] at hfin
        refine hK.out _ _ (fun _ => trivial) ?_
        clear hK K
        simp only [Act.put, List.setIfInBounds_toArray, List.set_cons_zero, List.set_cons_succ]
        refine oneT 8 (by kernel_rfl) rfl (fun K hK => ?_)
        go_simp
        refine hK.out _ _ (fun _ => trivial) ?_
        clear hK K
        refine doneT (by kernel_rfl) ?_ _
        go_wp2_with fail
        go_ret
        exact ⟨hB9, _, _, _, rfl, hfin⟩
  · have hm0 : ¬ (0 : Int) < (m : Int) := by omega
    have hme : m = 0 := by omega
    have Hp0 := Lib.hid (show p = [] from List.length_eq_zero_iff.1 (by rw [← Hm.out]; exact hme))
    have hn2n : 2 ≤ n := by have := Hn.out; omega
    have hal : 1 < KL.length := by omega
    obtain ⟨vq, hvq, rq, kq, _⟩ := hSg.at0 hcg (i := 1) hal
    obtain ⟨q, hq⟩ : ∃ q, q = KL[1] := ⟨_, rfl⟩
    rw [← hq] at hvq rq
    obtain ⟨s1, hs1⟩ : ∃ s1, s = q :: s1 := by
      have e : KL = y :: s := by rw [HK.out, Hp0.out]; rfl
      match s, e with
      | [], e => rw [e] at hal; simp at hal
      | q2 :: s1, e => exact ⟨s1, by rw [hq]; simp only [e]; rfl⟩
    have hql : q.kids.length = 2 ∨ q.kids.length = 3 := Hz.out q (by rw [hs1]; simp)
    have HKy := Lib.hid (show KL = y :: q :: s1 by rw [HK.out, Hp0.out, hs1]; rfl)
    obtain ⟨Aq, cq, rfl, hSq⟩ := hvq.kids
    obtain ⟨bq, oq, rfl⟩ := hSq.ad (by omega)
    have hqc := hSq.2.1
    have Hs1 := Lib.hid hs1
    have Hql := Lib.hid hql
    have Hme := Lib.hid hme
    clear hq hs1 hql rq hvq hme
    obtain ⟨nq, hnq⟩ : ∃ nq, nq = q.kids.length := ⟨_, rfl⟩
    rw [← hnq] at hSq hqc kq
    have Hnq := Lib.hid hnq
    clear hnq
    have z2 : (1 : Int) < (n : Int) := by omega
    have z3 : (n : Int) ≤ (c8 : Int) := by have := hKid.row.1; omega
    have z8 : ¬ n = 0 := by omega
    have z9 : ¬ n = 1 := by omega
    have z10 : (0 : Int) < (n : Int) := by omega
    have kq3 : w1.cell? ⟨b, o + 3, none⟩ = some (.slice (some ⟨bq, oq, none⟩) nq cq) := kq
    clear kq
    by_cases h3 : nq = 3
    · have hqk0 : 0 < q.kids.length := by have := Hnq.out; omega
      obtain ⟨u1, hu1, r1, _, hlt1⟩ := hSq.at0 hcg (i := 0) hqk0
      obtain ⟨u0, hu0, r0, _, hlt0⟩ := hSl.at0 hcg (i := 0) (by simp)
      have Hq2 := Lib.hid (show q.kids.take 1 = [q.kids[0]] by rw [List.take_succ_eq_append_getElem hqk0]; rfl)
      have z5 : (1 : Int) < (nq : Int) := by omega
      have z6 : (0 : Int) < (nq : Int) := by omega
      have z7 : ¬ nq = 0 := by omega
      generalize q.kids[0] = q1 at *
      rw [show ([y0] : List Nd)[0] = y0 from rfl] at hu0 r0
      go_upto_region 13 with fail
      try simp only [Act.put]
      have hun := Try.underlying56
      have hS0 : (Try.prog.info? 56).map (·.size) = some 2 := sizeNd
      have hkeep : ∀ wx : World, Below w1.heap.size w1 wx → wx.rangeAt bl (ol) [iv y0.id, u0] ∧ wx.rangeAt bq (oq) [iv q1.id, u1] := fun wx hb => ⟨rk hb r0 hlt0, rk hb r1 hlt1⟩
      refine beginT (fun wx => wx.rangeAt bl (ol) [iv y0.id, u0] ∧ wx.rangeAt bq (oq) [iv q1.id, u1]) 10 (by kernel_rfl) ?_
      have hS := hkeep _ (c_drew (c_refl _))
      refine takeD 0 (some 76) (.slice (some ⟨g, 0, none⟩) n c8) rfl rfl (by kernel_rfl) (by kernel_rfl) (by kernel_rfl) (by kernel_rfl) (fun _ _ _ h => h) (Or.inl ⟨by kernel_rfl, fun wx hSw => by go_simp⟩) hS ?_
      simp only [Act.put, List.setIfInBounds_toArray, List.set_cons_zero, List.set_cons_succ]
      refine takeD 1 (some 77) (.slice (some ⟨bl, ol, none⟩) 1 cl) rfl rfl (by kernel_rfl) (by kernel_rfl) (by kernel_rfl) (by kernel_rfl) (fun _ _ _ h => h) (Or.inl ⟨by kernel_rfl, fun wx hSw => by go_simp⟩) hS ?_
      simp only [Act.put, List.setIfInBounds_toArray, List.set_cons_zero, List.set_cons_succ]
      refine takeD 2 (some 78) (.pointer (some ⟨bl, ol, none⟩)) rfl rfl (by kernel_rfl) (by kernel_rfl) (by kernel_rfl) (by kernel_rfl) (fun _ _ _ h => h) (Or.inl ⟨by kernel_rfl, fun wx hSw => by go_simp⟩) hS ?_
      simp only [Act.put, List.setIfInBounds_toArray, List.set_cons_zero, List.set_cons_succ]
      refine loadT 3 (some 79) 56 (.tmp 78) bl (ol) [iv y0.id, u0] rfl rfl (by kernel_rfl) (by kernel_rfl) (by kernel_rfl) (by kernel_rfl) rfl (by kernel_rfl) rfl (fun wx hSw => hSw.1) hun rfl hS0 (fun _ _ _ h => h) hS ?_
      simp only [Act.put, List.setIfInBounds_toArray, List.set_cons_zero, List.set_cons_succ]
      refine takeD 4 (some 80) (.slice (some ⟨bq, oq, none⟩) nq cq) rfl rfl (by kernel_rfl) (by kernel_rfl) (by kernel_rfl) (by kernel_rfl) (fun _ _ _ h => h) (Or.inl ⟨by kernel_rfl, fun wx hSw => by go_simp⟩) hS ?_
      simp only [Act.put, List.setIfInBounds_toArray, List.set_cons_zero, List.set_cons_succ]
      refine takeD 5 (some 81) (.pointer (some ⟨bq, oq, none⟩)) rfl rfl (by kernel_rfl) (by kernel_rfl) (by kernel_rfl) (by kernel_rfl) (fun _ _ _ h => h) (Or.inl ⟨by kernel_rfl, fun wx hSw => by go_simp⟩) hS ?_
      simp only [Act.put, List.setIfInBounds_toArray, List.set_cons_zero, List.set_cons_succ]
      refine loadT 6 (some 82) 56 (.tmp 81) bq (oq) [iv q1.id, u1] rfl rfl (by kernel_rfl) (by kernel_rfl) (by kernel_rfl) (by kernel_rfl) rfl (by kernel_rfl) rfl (fun wx hSw => hSw.2) hun rfl hS0 (fun _ _ _ h => h) hS ?_
      simp only [Act.put, List.setIfInBounds_toArray, List.set_cons_zero, List.set_cons_succ]
      have hx0 : Below w1.heap.size w1 w1.drew := c_drew (c_refl _)
      have hK0 := hKid.below hc1 hx0
      have hB0 := hB.drew
      have hF : NdL (vw (g :: gs) w1.drew) w1.drew.heap.size [y0, q1] [u0, u1] := NdL.keep (vw_keep (w := w1) (w' := w1.drew) hcg (fun k hk => hcg k hk) (fun _ _ _ hr => hr.drew)) _ _ (show NdL (vw (g :: gs) w1) w1.heap.size [y0, q1] [u0, u1] from ⟨hu0, hu1, trivial⟩)
      generalize w1.drew = x0 at *
      have hcx := hcl.below hB0
      have hcgx := hK0.hcl hcx
      have hnew := SlN.newN hcgx [y0, q1] [u0, u1] #[iv y0.id, u0, iv q1.id, u1] hF rfl (by simp)
      refine oneT 7 (by kernel_rfl) rfl (fun K hK => ?_)
      go_simp
      refine hK.out _ _ (fun _ => hkeep _ (c_alloc hx0 _)) ?_
      clear hK K
      have hal1 := d_al x0 (.cells #[iv y0.id, u0, iv q1.id, u1] 56)
      have hK1 := hK0.below hcx hal1
      have hB1 := hB0.alloc hB0.size (.cells #[iv y0.id, u0, iv q1.id, u1] 56)
      have hx1 := c_call hx0 hal1
      generalize x0.heap.size = gn at *
      generalize x0.alloc (.cells #[iv y0.id, u0, iv q1.id, u1] 56) = x1 at *
      have hS1 := hkeep x1 hx1
      refine takeD 8 (some 84) (.agg #[.int .i64 0, .slice (some ⟨gn, 0, none⟩) 2 2]) rfl rfl (by kernel_rfl) (by kernel_rfl) (by kernel_rfl) (by kernel_rfl) (fun _ _ _ h => h) (Or.inl ⟨by kernel_rfl, fun wx hSw => by go_simp⟩) hS1 ?_
      simp only [Act.put, List.setIfInBounds_toArray, List.set_cons_zero, List.set_cons_succ]
      refine oneT 9 (by kernel_rfl) rfl (fun K hK => ?_)
      go_simp
      refine hK.out _ _ (fun _ => hS1) ?_
      clear hK K
      have hnd := hnew.node (by simp)
      have hK2 := hK1.set (i := 0) (by first | omega | (simp only [List.length_set]; omega)) hnd
      rw [ofKids_id (by simp)] at hK2
      refine oneT 10 (by kernel_rfl) rfl (fun K hK => ?_)
      refine step_store_midT rfl rfl 56 (.tmp 85) (.tmp 84) rfl g (0) #[.int .i64 0, .slice (some ⟨gn, 0, none⟩) 2 2] rfl rfl (hK1.there (i := 0) (by first | omega | (simp only [List.length_set]; omega))) sizeNd (by simp [Value.oneCell']) ?_
      refine hK.out _ _ (fun h => absurd rfl h) ?_
      clear hK K
      refine doneT (by kernel_rfl) ?_ _
      have hBs := below_setCells hgw [.int .i64 0, .slice (some ⟨gn, 0, none⟩) 2 2] 0 x1 hB1
      have hvw := vw_setCells g gs [.int .i64 0, .slice (some ⟨gn, 0, none⟩) 2 2] 0 x1
      have hzs := size_setCellsT g [.int .i64 0, .slice (some ⟨gn, 0, none⟩) 2 2] 0 x1
      have hSq9 : SlN (vw (g :: gs) x1) x1.heap.size (some ⟨bq, oq, none⟩) nq cq q.kids := hSq.keep (vw_keep hcg (hcg.below hx1) (fun _ _ _ hr => (hr.below hx1).more hx1.size))
      rw [← hvw, ← hzs] at hSq9
      go_upto_region 14 with fail
      try simp only [Act.put]
      refine wp_gen (fun wx => Below w.heap.size w wx ∧ KidR gs w.heap.size wx g c8 (KL.set 0 (ofKids [y0, q1])) ∧ SlN (vw (g :: gs) wx) wx.heap.size (some ⟨bq, oq, none⟩) nq cq q.kids) ⟨hBs, hK2, hSq9⟩ ?_
      clear hSq9 hvw hzs hBs hK2 hK1 hB1 hnd hnew hK0 hB0 hF hcgx hcx hal1 hx1 hx0 hS1 hkeep hSg hSq hSl hc1 hcg hB hKid k1 kq3
      rintro w3 ⟨hB3, hKid, hSq⟩
      have hc3 := hcl.below hB3
      have hcg := hKid.hcl hc3
      have g4 : (nq : Int) ≤ (cq : Int) := by omega
      have g5 : ¬ cq = 1 := by omega
      have g6 : (1 : Int) ≤ (nq : Int) := by omega
      have hcut := hSq.cut (k := 1) (by omega)
      rw [if_neg g5] at hcut
      have hl2 : (q.kids.drop 1).length = nq - 1 := hcut.1
      have hnd := hcut.node (by omega)
      have g7 : nq - 1 = 2 := by omega
      rw [g7] at hnd
      have hal2 : 1 < (KL.set 0 (ofKids [y0, q1])).length := by rw [List.length_set]; exact hal
      have hK2 := hKid.set hal2 hnd
      rw [ofKids_id (by omega)] at hK2
      go_wp2_with ((with_reducible show wpList _ _ _ (⟨none, Op.store 56 _ _, _, _, _, _⟩ :: _) _ _); refine wpList_store_mid rfl 56 (.tmp 90) (.tmp 89) rfl g (2) #[.int .i64 0, .slice (some ⟨bq, oq + 2, none⟩) 2 (cq - 1)] rfl rfl (hKid.there hal2) sizeNd (by simp [Value.oneCell']) ?_)
      go_ret
      have hB9 := below_setCells hgw [.int .i64 0, .slice (some ⟨bq, oq + 2, none⟩) 2 (cq - 1)] 2 w3 hB3
      have hfin := hK2.sl (hcl.below hB9) hcl.lt
      rw [show ((KL.set 0 (ofKids [y0, q1])).set 1 (ofKids (q.kids.drop 1))).length = n by simp only [List.length_set]; exact hKl] at hfin
      rw [show (KL.set 0 (ofKids [y0, q1])).set 1 (ofKids (q.kids.drop 1)) = mendN p y s by rw [Hp0.out, Hs1.out, mend_zero3 (by rw [← Hnq.out]; exact h3), hy0, Hq2.out, HKy.out]; rfl] at hfin
      exact ⟨hB9, _, _, _, rfl, hfin⟩
    · have hn2 : nq = 2 := by have := Hql.out; have := Hnq.out; omega
      have hqk0 : 0 < q.kids.length := by have := Hnq.out; omega
      have hqk1 : 1 < q.kids.length := by have := Hnq.out; omega
      obtain ⟨u1, hu1, r1, _, hlt1⟩ := hSq.at0 hcg (i := 0) hqk0
      obtain ⟨u2, hu2, r2, _, hlt2⟩ := hSq.at0 hcg (i := 1) hqk1
      obtain ⟨u0, hu0, r0, _, hlt0⟩ := hSl.at0 hcg (i := 0) (by simp)
      have Hq2 := Lib.hid (two_list (l := q.kids) (by have := Hnq.out; omega) hqk0 hqk1)
      have z5 : (1 : Int) < (nq : Int) := by omega
      have z6 : (0 : Int) < (nq : Int) := by omega
      have z7 : ¬ nq = 0 := by omega
      clear hn2
      generalize q.kids[0] = q1 at *
      generalize q.kids[1] = q2 at *
      rw [show ([y0] : List Nd)[0] = y0 from rfl] at hu0 r0
      go_upto_region 16 with fail
      try simp only [Act.put]
      have hun := Try.underlying56
      have hS0 : (Try.prog.info? 56).map (·.size) = some 2 := sizeNd
      have hkeep : ∀ wx : World, Below w1.heap.size w1 wx → wx.rangeAt bq (oq) [iv q1.id, u1] ∧ wx.rangeAt bq (oq + 2) [iv q2.id, u2] ∧ wx.rangeAt bl (ol) [iv y0.id, u0] := fun wx hb => ⟨rk hb r1 hlt1, rk hb r2 hlt2, rk hb r0 hlt0⟩
      refine beginT (fun wx => wx.rangeAt bq (oq) [iv q1.id, u1] ∧ wx.rangeAt bq (oq + 2) [iv q2.id, u2] ∧ wx.rangeAt bl (ol) [iv y0.id, u0]) 13 (by kernel_rfl) ?_
      have hS := hkeep _ (c_drew (c_refl _))
      refine takeD 0 (some 92) (.slice (some ⟨g, 0, none⟩) n c8) rfl rfl (by kernel_rfl) (by kernel_rfl) (by kernel_rfl) (by kernel_rfl) (fun _ _ _ h => h) (Or.inl ⟨by kernel_rfl, fun wx hSw => by go_simp⟩) hS ?_
      simp only [Act.put, List.setIfInBounds_toArray, List.set_cons_zero, List.set_cons_succ]
      refine takeD 1 (some 93) (.slice (some ⟨bl, ol, none⟩) 1 cl) rfl rfl (by kernel_rfl) (by kernel_rfl) (by kernel_rfl) (by kernel_rfl) (fun _ _ _ h => h) (Or.inl ⟨by kernel_rfl, fun wx hSw => by go_simp⟩) hS ?_
      simp only [Act.put, List.setIfInBounds_toArray, List.set_cons_zero, List.set_cons_succ]
      refine takeD 2 (some 94) (.pointer (some ⟨bl, ol, none⟩)) rfl rfl (by kernel_rfl) (by kernel_rfl) (by kernel_rfl) (by kernel_rfl) (fun _ _ _ h => h) (Or.inl ⟨by kernel_rfl, fun wx hSw => by go_simp⟩) hS ?_
      simp only [Act.put, List.setIfInBounds_toArray, List.set_cons_zero, List.set_cons_succ]
      refine loadT 3 (some 95) 56 (.tmp 94) bl (ol) [iv y0.id, u0] rfl rfl (by kernel_rfl) (by kernel_rfl) (by kernel_rfl) (by kernel_rfl) rfl (by kernel_rfl) rfl (fun wx hSw => hSw.2.2) hun rfl hS0 (fun _ _ _ h => h) hS ?_
      simp only [Act.put, List.setIfInBounds_toArray, List.set_cons_zero, List.set_cons_succ]
      refine takeD 4 (some 96) (.slice (some ⟨bq, oq, none⟩) nq cq) rfl rfl (by kernel_rfl) (by kernel_rfl) (by kernel_rfl) (by kernel_rfl) (fun _ _ _ h => h) (Or.inl ⟨by kernel_rfl, fun wx hSw => by go_simp⟩) hS ?_
      simp only [Act.put, List.setIfInBounds_toArray, List.set_cons_zero, List.set_cons_succ]
      refine takeD 5 (some 97) (.pointer (some ⟨bq, oq, none⟩)) rfl rfl (by kernel_rfl) (by kernel_rfl) (by kernel_rfl) (by kernel_rfl) (fun _ _ _ h => h) (Or.inl ⟨by kernel_rfl, fun wx hSw => by go_simp⟩) hS ?_
      simp only [Act.put, List.setIfInBounds_toArray, List.set_cons_zero, List.set_cons_succ]
      refine loadT 6 (some 98) 56 (.tmp 97) bq (oq) [iv q1.id, u1] rfl rfl (by kernel_rfl) (by kernel_rfl) (by kernel_rfl) (by kernel_rfl) rfl (by kernel_rfl) rfl (fun wx hSw => hSw.1) hun rfl hS0 (fun _ _ _ h => h) hS ?_
      simp only [Act.put, List.setIfInBounds_toArray, List.set_cons_zero, List.set_cons_succ]
      refine takeD 7 (some 99) (.slice (some ⟨bq, oq, none⟩) nq cq) rfl rfl (by kernel_rfl) (by kernel_rfl) (by kernel_rfl) (by kernel_rfl) (fun _ _ _ h => h) (Or.inl ⟨by kernel_rfl, fun wx hSw => by go_simp⟩) hS ?_
      simp only [Act.put, List.setIfInBounds_toArray, List.set_cons_zero, List.set_cons_succ]
      refine takeD 8 (some 100) (.pointer (some ⟨bq, oq + 2, none⟩)) rfl rfl (by kernel_rfl) (by kernel_rfl) (by kernel_rfl) (by kernel_rfl) (fun _ _ _ h => h) (Or.inl ⟨by kernel_rfl, fun wx hSw => by go_simp⟩) hS ?_
      simp only [Act.put, List.setIfInBounds_toArray, List.set_cons_zero, List.set_cons_succ]
      refine loadT 9 (some 101) 56 (.tmp 100) bq (oq + 2) [iv q2.id, u2] rfl rfl (by kernel_rfl) (by kernel_rfl) (by kernel_rfl) (by kernel_rfl) rfl (by kernel_rfl) rfl (fun wx hSw => hSw.2.1) hun rfl hS0 (fun _ _ _ h => h) hS ?_
      simp only [Act.put, List.setIfInBounds_toArray, List.set_cons_zero, List.set_cons_succ]
      have hx0 : Below w1.heap.size w1 w1.drew := c_drew (c_refl _)
      have hK0 := hKid.below hc1 hx0
      have hB0 := hB.drew
      have hF : NdL (vw (g :: gs) w1.drew) w1.drew.heap.size [y0, q1, q2] [u0, u1, u2] := NdL.keep (vw_keep (w := w1) (w' := w1.drew) hcg (fun k hk => hcg k hk) (fun _ _ _ hr => hr.drew)) _ _ (show NdL (vw (g :: gs) w1) w1.heap.size [y0, q1, q2] [u0, u1, u2] from ⟨hu0, hu1, hu2, trivial⟩)
      generalize w1.drew = x0 at *
      have hcx := hcl.below hB0
      have hcgx := hK0.hcl hcx
      have hnew := SlN.newN hcgx [y0, q1, q2] [u0, u1, u2] #[iv y0.id, u0, iv q1.id, u1, iv q2.id, u2] hF rfl (by simp)
      refine oneT 10 (by kernel_rfl) rfl (fun K hK => ?_)
      go_simp
      refine hK.out _ _ (fun _ => hkeep _ (c_alloc hx0 _)) ?_
      clear hK K
      have hal1 := d_al x0 (.cells #[iv y0.id, u0, iv q1.id, u1, iv q2.id, u2] 56)
      have hK1 := hK0.below hcx hal1
      have hB1 := hB0.alloc hB0.size (.cells #[iv y0.id, u0, iv q1.id, u1, iv q2.id, u2] 56)
      have hx1 := c_call hx0 hal1
      generalize x0.heap.size = gn at *
      generalize x0.alloc (.cells #[iv y0.id, u0, iv q1.id, u1, iv q2.id, u2] 56) = x1 at *
      have hS1 := hkeep x1 hx1
      refine takeD 11 (some 103) (.agg #[.int .i64 0, .slice (some ⟨gn, 0, none⟩) 3 3]) rfl rfl (by kernel_rfl) (by kernel_rfl) (by kernel_rfl) (by kernel_rfl) (fun _ _ _ h => h) (Or.inl ⟨by kernel_rfl, fun wx hSw => by go_simp⟩) hS1 ?_
      simp only [Act.put, List.setIfInBounds_toArray, List.set_cons_zero, List.set_cons_succ]
      refine oneT 12 (by kernel_rfl) rfl (fun K hK => ?_)
      go_simp
      refine hK.out _ _ (fun _ => hS1) ?_
      clear hK K
      have hnd := hnew.node (by simp)
      have hK2 := hK1.set (i := 1) (by first | omega | (simp only [List.length_set]; omega)) hnd
      rw [ofKids_id (by simp)] at hK2
      refine oneT 13 (by kernel_rfl) rfl (fun K hK => ?_)
      refine step_store_midT rfl rfl 56 (.tmp 104) (.tmp 103) rfl g (2) #[.int .i64 0, .slice (some ⟨gn, 0, none⟩) 3 3] rfl rfl (hK1.there (i := 1) (by first | omega | (simp only [List.length_set]; omega))) sizeNd (by simp [Value.oneCell']) ?_
      refine hK.out _ _ (fun h => absurd rfl h) ?_
      clear hK K
      refine doneT (by kernel_rfl) ?_ _
      have hB9 := below_setCells hgw [.int .i64 0, .slice (some ⟨gn, 0, none⟩) 3 3] 2 x1 hB1
      have hfin0 := hK2.sl (hcl.below hB9) hcl.lt
      rw [show (KL.set 1 (ofKids [y0, q1, q2])).length = n by simp only [List.length_set]; exact hKl] at hfin0
      have hfin := hfin0.cut (k := 1) (by omega)
      have g5 : ¬ c8 = 1 := by omega
      have g6 : (1 : Int) ≤ (n : Int) := by omega
      have g7 : (1 : Int) ≤ (c8 : Int) := by omega
      rw [if_neg g5] at hfin
      rw [show (KL.set 1 (ofKids [y0, q1, q2])).drop 1 = mendN p y s by rw [Hp0.out, Hs1.out, mend_zero2 (by rw [← Hnq.out]; exact h3), hy0, Hq2.out, HKy.out]; rfl] at hfin
      go_wp2_with fail
      go_ret
      exact ⟨hB9, _, _, _, rfl, hfin⟩

end Go.Proofs.Ytjhcnhihmgpgbaa

