import Derived.Test.YtmganbdbihjbmaaK18
import Derived.Test.YtmganbdbihjbmaaK19
/-
  CONTRACT of the document's mend (coterieref10).
-/
set_option linter.unusedVariables false
namespace Go.Proofs.Ytmganbdbihjbmaa
open Go.RowKit

/-- nodes in a new row -/
theorem SlN.newN {gs : List Nat} {w : World} (hc : Cells gs w) (F : List Nd) (vs : List Value) (cells : Array Value) (hF : NdL (vw gs w) w.heap.size F vs) (hcs : cells.toList = flatV F vs) (hm : F.length ≤ 3) :
    SlN (vw gs (w.alloc (.cells cells 85))) (w.alloc (.cells cells 85)).heap.size (some ⟨w.heap.size, 0, none⟩) F.length F.length F := by
  have hB : Below w.heap.size w (w.alloc (.cells cells 85)) := (Below.refl _ _).alloc (Nat.le_refl _) _
  have hc' := hc.below hB
  have hl := hF.len
  refine ⟨rfl, Nat.le_refl _, by simp only [maxLen]; omega, vs, NdL.keep (vw_keep hc hc' (fun _ _ _ hr => (hr.below hB).more hB.size)) F vs hF, ?_⟩
  refine vw_new hc' (lo := w.heap.size) (Rd.mk_ _ _ _ rfl (by simp) (by rw [← Array.length_toList, hcs, flatV_len hl]) hcs) (fun ad had => by injection had with had; subst had; exact Nat.le_refl _) hc.lt
theorem SlN.at0 {gs : List Nat} {w : World} {B : Nat} {b o n c : Nat} {F : List Nd} (hc : Cells gs w) (h : SlN (vw gs w) B (some ⟨b, o, none⟩) n c F) {i : Nat} (hi : i < F.length) :
    ∃ v, NdV (vw gs w) B F[i] v ∧ w.rangeAt b (o + i * 2) [iv F[i].id, v] ∧ w.cell? ⟨b, o + i * 2 + 1, none⟩ = some v ∧ b < B := by
  obtain ⟨b', o', v, e, hlt, h1, h2, h3⟩ := h.rangeV hc hi
  injection e with e
  injection e with e1 e2
  subst e1 e2
  exact ⟨v, h1, h2, h3, hlt⟩
theorem rk {w w' : World} {b o : Nat} {cs : List Value} (hb : Below w.heap.size w w') (h : w.rangeAt b o cs) (hlt : b < w.heap.size) : w'.rangeAt b o cs := fun j u hu => by
  rw [← h j u hu]
  exact hb.cell (p := ⟨b, o + j, none⟩) hlt
theorem SlN.ad {w : World} {B : Nat} {A : Option Addr} {n c : Nat} {F : List Nd} (h : SlN w B A n c F) (hn : 0 < n) : ∃ b o, A = some ⟨b, o, none⟩ := by
  obtain ⟨_, _, _, us, _, hR⟩ := h
  obtain ⟨b, o, e, _⟩ := hR.pos (by omega)
  exact ⟨b, o, e⟩
theorem mend_pos3 {p1 : List Nd} {q y : Nd} {s : List Nd} (h : q.kids.length = 3) : mendN (p1 ++ [q]) y s = p1 ++ ofKids (q.kids.take 2) :: ofKids (q.kids.drop 2 ++ y.kids) :: s := by simp [mendN, h]
theorem mend_pos2 {p1 : List Nd} {q y : Nd} {s : List Nd} (h : q.kids.length ≠ 3) : mendN (p1 ++ [q]) y s = p1 ++ ofKids (q.kids ++ y.kids) :: s := by simp [mendN, h]
theorem mend_zero3 {q y : Nd} {s : List Nd} (h : q.kids.length = 3) : mendN [] y (q :: s) = ofKids (y.kids ++ q.kids.take 1) :: ofKids (q.kids.drop 1) :: s := by simp [mendN, h]
theorem mend_zero2 {q y : Nd} {s : List Nd} (h : q.kids.length ≠ 3) : mendN [] y (q :: s) = ofKids (y.kids ++ q.kids) :: s := by simp [mendN, h]
theorem set_two (p1 : List Nd) (q y x z : Nd) (s : List Nd) : ((p1 ++ [q] ++ y :: s).set p1.length x).set (p1.length + 1) z = p1 ++ x :: z :: s := by
  rw [List.append_assoc, List.singleton_append, set_mid, List.set_append_right _ _ (by omega), show p1.length + 1 - p1.length = 1 by omega]
  rfl
/-- nodes are appended onto nodes of the call's own: one step of a region that draws its order -/
theorem step_append_nd {ops : Array Oper} {o : Oper} {a : Act} {w : World} {K : Act → World → Prop} {Q : Exit → Act → World → Prop} {E : Prop} (hgd : Region.wanted o (yielded ops a.tmps) = true) (dst : Option Tmp) (hd : o.dst = dst) (s x : Operand)
    (ho : o.op = .call { callee := .builtin .append, args := #[s, x], argTypes := #[83, 83] })
    (base : Nat) (A : Option Addr) (n c : Nat) (F : List Nd) (vs : List Value) (hs : a.eval s = .slice A n c) (hown : w.ownsRow base 85 2 (.slice A n c) n (flatV F vs))
    (B : Nat) (A' : Option Addr) (m c' : Nat) (G : List Nd) (us : List Value) (hx : a.eval x = .slice A' m c') (h1 : ∀ u ∈ flatV G us, u.oneCell' = true) (hr : Rd w B A' (2 * m) (flatV G us))
    (h63 : n + m ≤ 1000000000) (hbase : base ≤ w.heap.size) (hvl : vs.length = F.length)
    (h : ∀ A2 c2 w', w'.ownsRow base 85 2 (.slice A2 (n + m) c2) (n + m) (flatV (F ++ G) (vs ++ us)) → w.grownBy w' (Value.slice A n c).ownBlock → ((Value.slice A2 (n + m) c2).ownBlock = (Value.slice A n c).ownBlock ∨ (Value.slice A2 (n + m) c2).ownBlock = some w.heap.size) → K (a.put dst (.slice A2 (n + m) c2)) w') : if Region.wanted o (yielded ops a.tmps) = true then Oper.wp Try.prog o a w K Q else E := by
  subst hd
  obtain ⟨i, hi, hz, hsz, hby⟩ := node_parts
  rw [if_pos hgd]
  obtain ⟨v', w', hrun, h2, h3, h4⟩ := run_append_rdZ (P := Try.prog) w base 83 o.type 85 i _ 2 32 Try.underlying83 hi hz hsz hby rfl (by omega) _ n _ hown B A' m c' (flatV G us) (by rw [Nat.mul_comm]; exact hr) h1 (by simp only [maxLen]; omega) (by omega) hbase
  obtain ⟨A2, c2, rfl, _, _⟩ := own_formT h2
  unfold Oper.wp execOp
  simp only [ho, resolve, invoke, builtin, Sem.run_bind, Sem.run_pure, Result.andThen_ok, List.map_toArray, List.map_cons, List.map_nil, hs, hx, hrun]
  refine h A2 c2 w' ?_ h3 h4
  rw [flatV_app hvl]
  exact h2
/-- the first nodes of an own row are an own row -/
theorem KidR.pre {gs : List Nat} {base : Nat} {w : World} {g c : Nat} {K : List Nd} (h : KidR gs base w g c K) {k : Nat} (hk : k ≤ K.length) :
    ∃ vs, vs.length = K.length ∧ w.ownsRow base 85 2 (.slice (some ⟨g, 0, none⟩) k c) k (flatV (K.take k) (vs.take k)) ∧ NdL (vw (g :: gs) w) w.heap.size K vs ∧ w.rangeAt g 0 (flatV K vs) := by
  obtain ⟨vs, hN, hr⟩ := h.read
  obtain ⟨h1, h2, h3, cur, hrow, hs⟩ := h.row
  have hl := hN.len
  refine ⟨vs, hl, ⟨?_, .inr ⟨g, c, cur, rfl, h3, hrow, by omega, h2, hs, ?_⟩⟩, hN, hr⟩
  · rw [flatV_len (by simp [hl]), List.length_take]
    omega
  · apply List.ext_getElem?
    intro j
    rw [← flatV_take k hl, List.getElem?_take, List.getElem?_take]
    by_cases hj : j < 2 * k
    · rw [if_pos (by omega), if_pos hj]
      obtain ⟨u, hu⟩ : ∃ u, (flatV K vs)[j]? = some u := ⟨_, List.getElem?_eq_getElem (by rw [flatV_len hl]; omega)⟩
      have := hr j u hu
      rw [Nat.zero_add, cell_of_row w g j cur _ (0, 0) hrow, ← Array.getElem?_toList] at this
      rw [this, hu]
    · rw [if_neg (by omega), if_neg hj]
theorem KidR.tail {gs : List Nat} {base : Nat} {w : World} {g c : Nat} {K : List Nd} {vs : List Value} (h : KidR gs base w g c K) (hl : vs.length = K.length) (hr : w.rangeAt g 0 (flatV K vs)) {k : Nat} (hk : k ≤ K.length) (A : Option Addr) (hA : A = if c = k then some ⟨g, 0, none⟩ else some ⟨g, k * 2, none⟩) :
    Rd w w.heap.size A (2 * (K.length - k)) (flatV (K.drop k) (vs.drop k)) := by
  obtain ⟨h1, h2, h3, cur, hrow, hs⟩ := h.row
  refine ⟨by rw [flatV_len (by simp [hl])]; simp, fun hn => ⟨g, k * 2, ?_, hrow.lt, fun j u hu => ?_⟩⟩
  · rw [hA, if_neg (by omega)]
  · rw [← flatV_drop k hl, List.getElem?_drop] at hu
    have := hr _ u hu
    rwa [Nat.zero_add, show 2 * k + j = k * 2 + j by omega] at this
theorem one_of {w : World} {B : Nat} {F : List Nd} {vs : List Value} (h : NdL w B F vs) : ∀ u ∈ flatV F vs, u.oneCell' = true := flat_one h
theorem two_list {l : List Nd} (h : l.length = 2) (h0 : 0 < l.length) (h1 : 1 < l.length) : l = [l[0], l[1]] := by
  match l, h with
  | [x, y], _ => rfl
theorem cut_two (p1 : List Nd) (q y x : Nd) (s : List Nd) : ((p1 ++ [q] ++ y :: s).set p1.length x).take (p1.length + 1) ++ ((p1 ++ [q] ++ y :: s).set p1.length x).drop (p1.length + 1 + 1) = p1 ++ x :: s := by
  rw [List.append_assoc, List.singleton_append, set_mid]
  have e1 : (p1 ++ x :: y :: s).take (p1.length + 1) = p1 ++ [x] := by
    rw [show p1 ++ x :: y :: s = (p1 ++ [x]) ++ y :: s by simp]
    exact List.take_left' (by simp)
  have e2 : (p1 ++ x :: y :: s).drop (p1.length + 1 + 1) = s := by
    rw [show p1 ++ x :: y :: s = (p1 ++ [x, y]) ++ s by simp]
    exact List.drop_left' (by simp)
  rw [e1, e2]
  simp
theorem kids_ne {x : Nd} : x.kids.length ≤ 3 := by cases x <;> simp [Nd.kids]

set_option maxRecDepth 100000 in
set_option maxHeartbeats 8000000 in
theorem mend_any (gs : List Nat) (p : List Nd) (y : Nd) (s : List Nd) (A : Option Addr) (n c : Nat) (w : World) (hcl : Cells gs w) (hS : SlN (vw gs w) w.heap.size A n c (p ++ y :: s)) (hn : n = 2 ∨ n = 3) (hy : y.kids.length = 1)
    (hz : ∀ z ∈ p ++ s, z.kids.length = 2 ∨ z.kids.length = 3) :
    Calls Try.prog 72 #[.slice A n c, .int .i64 (p.length : Int)] w fun e w' => Below w.heap.size w w' ∧ ∃ A' n' c', e = .returned (.slice A' n' c') ∧ SlN (vw gs w') w'.heap.size A' n' c' (mendN p y s) := by
  have hnl : p.length + 1 + s.length = n := by have := hS.1; simp at this; omega
  have Hnl := Lib.hid hnl
  obtain ⟨b, o, rfl⟩ := hS.ad (by omega)
  obtain ⟨KL, hK⟩ : ∃ KL, KL = p ++ y :: s := ⟨_, rfl⟩
  have HK := Lib.hid hK
  rw [← hK] at hS
  obtain ⟨m, hm⟩ : ∃ m, m = p.length := ⟨_, rfl⟩
  have Hm := Lib.hid hm
  rw [← hm]
  have hmn : m < n := by omega
  have hKm : KL[m]? = some y := by rw [hK, hm]; simp
  have hKl : KL.length = n := hS.1
  have Hn := Lib.hid hn
  have Hz := Lib.hid hz
  obtain ⟨y0, hy0⟩ : ∃ y0, y.kids = [y0] := by
    match y.kids, hy with
    | [y0], _ => exact ⟨y0, rfl⟩
  obtain ⟨_, hnc, hcm, us, hN1, hR1⟩ := @_root_.id _ hS
  have hN1u := hN1.keep (vw_un hcl)
  have hR1u := vw_un hcl _ _ _ hR1
  have h0n : 0 < n := by omega
  have h3n : n ≤ 3 := by omega
  clear hnl hK hm hn hz
  go_enter Try.func72, Try.ntmps72
  go_upto_region 2 with (at_builtin; refine wpList_append_nd (by kernel_rfl) (.const (.slice none 0 0)) (.tmp 9) rfl w.heap.size none 0 0 [] [] rfl (World.ownsRow_nil _ _ _ _) w.heap.size (some ⟨b, o, none⟩) n c KL us rfl hN1u hR1u (by omega) (Nat.le_refl _) rfl ?_; intro A8 c8 w8 hown8 hgr8 _; rw [Nat.zero_add, List.nil_append, List.nil_append] at hown8)
  try simp only [Act.put]
  have hB8 : Below w.heap.size w w8 := (Below.refl _ _).grown hgr8 (Nat.le_refl _) (fun k hk => by simp [Value.ownBlock] at hk)
  have hc8 := hcl.below hB8
  have hkp8 := vw_grown hcl hc8 hgr8 (B := w.heap.size) (fun k hk => by simp [Value.ownBlock] at hk) (Nat.le_refl _)
  have hc8l := hc8.own hown8
  have hS8 := hS.keep hkp8
  obtain ⟨g, hA8, hgw, hKid⟩ := KidR.of_own hown8 hKl h0n (NdL.keep (vw_more hc8l (B := w.heap.size) (fun k hk => own_blockT hown8 k (by simpa using hk)) hB8.size) KL us (hN1.keep hkp8))
  subst hA8
  have hSg := hS8.keep (vw_more (l := [g]) (hKid.hcl hc8) (B := w.heap.size) (B' := w8.heap.size) (fun k hk => by simp at hk; omega) hB8.size)
  refine wp_gen (fun wx => Below w.heap.size w wx ∧ KidR gs w.heap.size wx g c8 KL ∧ SlN (vw (g :: gs) wx) wx.heap.size (some ⟨b, o, none⟩) n c KL) ⟨hB8, hKid, hSg⟩ ?_
  clear hSg hKid hS8 hc8l hkp8 hc8 hB8 hgr8 hown8 hR1u hN1u hR1 hN1 hS
  rintro w1 ⟨hB, hKid, hSg⟩
  have hc1 := hcl.below hB
  have hcg := hKid.hcl hc1
  obtain ⟨v1, hv1, r1, k1, _⟩ := hSg.at0 hcg (i := m) (by omega)
  have hyv : NdV (vw (g :: gs) w1) w1.heap.size y v1 := by
    have e : KL[m] = y := by rw [List.getElem?_eq_getElem (by omega)] at hKm; exact Option.some.inj hKm
    rwa [e] at hv1
  obtain ⟨Al, cl, rfl, hSl⟩ := hyv.kids
  rw [hy0] at hSl
  obtain ⟨bl, ol, rfl⟩ := hSl.ad (by simp)
  clear hv1 hyv r1
  have z1 : (m : Int) < (n : Int) := by omega
  by_cases hm1 : 0 < m
  · have hm0 : (0 : Int) < (m : Int) := by omega
    obtain ⟨a, ha⟩ : ∃ a, m = a + 1 := ⟨m - 1, by omega⟩
    have Ha := Lib.hid ha
    have e1 : (m : Int) - 1 = (a : Int) := by omega
    have e2 : IntKind.i64.wrap (a : Int) = (a : Int) := by rw [IntKind.wrap_i64]; omega
    have z2 : (a : Int) < (n : Int) := by omega
    clear ha
    have hal : a < KL.length := by have := Ha.out; omega
    obtain ⟨vq, hvq, rq, kq, _⟩ := hSg.at0 hcg (i := a) hal
    obtain ⟨q, hq⟩ : ∃ q, q = KL[a] := ⟨_, rfl⟩
    rw [← hq] at hvq rq
    obtain ⟨p1, hp1⟩ : ∃ p1, p = p1 ++ [q] ∧ p1.length = a := by
      have hpl : p.length = a + 1 := by rw [← Hm.out, Ha.out]
      refine ⟨p.take a, ?_, by rw [List.length_take]; omega⟩
      have e : q = p[a] := by rw [hq]; simp only [HK.out]; rw [List.getElem_append_left]
      rw [e]
      conv => lhs; rw [← List.take_append_drop a p]
      congr 1
      rw [List.drop_eq_getElem_cons (by omega), List.drop_of_length_le (by omega)]
    obtain ⟨hp1, hp1l⟩ := hp1
    have hql : q.kids.length = 2 ∨ q.kids.length = 3 := Hz.out q (by rw [hp1]; simp)
    obtain ⟨Aq, cq, rfl, hSq⟩ := hvq.kids
    obtain ⟨bq, oq, rfl⟩ := hSq.ad (by omega)
    have hqc := hSq.2.1
    have Hp1 := Lib.hid hp1
    have Hp1l := Lib.hid hp1l
    have Hql := Lib.hid hql
    have Hq := Lib.hid hq
    clear hq hp1 hp1l hql rq hvq
    obtain ⟨nq, hnq⟩ : ∃ nq, nq = q.kids.length := ⟨_, rfl⟩
    rw [← hnq] at hSq hqc kq
    have Hnq := Lib.hid hnq
    clear hnq
    by_cases h3 : nq = 3
    · have g2 : (2 : Int) ≤ (cq : Int) := by omega
      have g3 : (2 : Int) ≤ (nq : Int) := by omega
      have g4 : (nq : Int) ≤ (cq : Int) := by omega
      have z3 : (n : Int) ≤ (c8 : Int) := by have := hKid.row.1; omega
      have hqk : 2 < q.kids.length := by have := Hnq.out; omega
      have h1k := (hSq.take (k := 2) (c' := 2) (by omega) (Nat.le_refl _) (by omega))
      have hl2 : (q.kids.take 2).length = 2 := h1k.1
      have hK1 := hKid.set hal (h1k.node (by omega))
      rw [ofKids_id (by omega)] at hK1
      go_upto_region 7 with ((with_reducible show wpList _ _ _ (⟨none, Op.store 85 _ _, _, _, _, _⟩ :: _) _ _); refine wpList_store_mid rfl 85 (.tmp 33) (.tmp 32) rfl g (a * 2) #[.int .i64 0, .slice (some ⟨bq, oq, none⟩) 2 2] rfl rfl (hKid.there hal) sizeNd (by simp [Value.oneCell']) ?_)
      try simp only [Act.put]
      refine wp_gen (fun wx => Below w.heap.size w wx ∧ KidR gs w.heap.size wx g c8 (KL.set a (ofKids (q.kids.take 2))) ∧ SlN (vw (g :: gs) wx) wx.heap.size (some ⟨bq, oq, none⟩) nq cq q.kids ∧ SlN (vw (g :: gs) wx) wx.heap.size (some ⟨bl, ol, none⟩) 1 cl [y0]) ⟨below_setCells hgw _ _ _ hB, hK1, by rw [vw_setCells, size_setCellsT]; exact hSq, by rw [vw_setCells, size_setCellsT]; exact hSl⟩ ?_
      clear hK1 hSq hSl hKid hSg hc1 hcg hB k1 kq h1k
      rintro w2 ⟨hB2, hKid, hSq, hSl⟩
      have hc2 := hcl.below hB2
      have hcg := hKid.hcl hc2
      obtain ⟨u2, hu2, r2, _, hlt2⟩ := hSq.at0 hcg (i := 2) hqk
      obtain ⟨u0, hu0, r0, _, hlt0⟩ := hSl.at0 hcg (i := 0) (by simp)
      have Hq2 := Lib.hid (show q.kids.drop 2 = [q.kids[2]] by rw [List.drop_eq_getElem_cons hqk, List.drop_of_length_le (by have := Hnq.out; omega)])
      generalize q.kids[2] = q2 at *
      rw [show ([y0] : List Nd)[0] = y0 from rfl] at hu0 r0
      have hun := Try.underlying85
      have hS0 : (Try.prog.info? 85).map (·.size) = some 2 := sizeNd
      have hkeep : ∀ wx : World, Below w2.heap.size w2 wx → wx.rangeAt bq (oq + 4) [iv q2.id, u2] ∧ wx.rangeAt bl (ol) [iv y0.id, u0] := fun wx hb => ⟨rk hb r2 hlt2, rk hb r0 hlt0⟩
      refine beginT (fun wx => wx.rangeAt bq (oq + 4) [iv q2.id, u2] ∧ wx.rangeAt bl (ol) [iv y0.id, u0]) 11 (by kernel_rfl) ?_
      have hS := hkeep _ (c_drew (c_refl _))
      refine takeD 0 (some 34) (.slice (some ⟨g, 0, none⟩) n c8) rfl rfl (by kernel_rfl) (by kernel_rfl) (by kernel_rfl) (by kernel_rfl) (fun _ _ _ h => h) (Or.inl ⟨by kernel_rfl, fun wx hSw => by go_simp⟩) hS ?_
      simp only [Act.put, List.setIfInBounds_toArray, List.set_cons_zero, List.set_cons_succ]
      refine takeD 1 (some 35) (.int .i64 (m : Int)) rfl rfl (by kernel_rfl) (by kernel_rfl) (by kernel_rfl) (by kernel_rfl) (fun _ _ _ h => h) (Or.inl ⟨by kernel_rfl, fun wx hSw => by go_simp⟩) hS ?_
      simp only [Act.put, List.setIfInBounds_toArray, List.set_cons_zero, List.set_cons_succ]
      refine takeD 2 (some 36) (.slice (some ⟨bq, oq, none⟩) nq cq) rfl rfl (by kernel_rfl) (by kernel_rfl) (by kernel_rfl) (by kernel_rfl) (fun _ _ _ h => h) (Or.inl ⟨by kernel_rfl, fun wx hSw => by go_simp⟩) hS ?_
      simp only [Act.put, List.setIfInBounds_toArray, List.set_cons_zero, List.set_cons_succ]
      refine takeD 3 (some 37) (.pointer (some ⟨bq, oq + 4, none⟩)) rfl rfl (by kernel_rfl) (by kernel_rfl) (by kernel_rfl) (by kernel_rfl) (fun _ _ _ h => h) (Or.inl ⟨by kernel_rfl, fun wx hSw => by go_simp⟩) hS ?_
      simp only [Act.put, List.setIfInBounds_toArray, List.set_cons_zero, List.set_cons_succ]
      refine loadT 4 (some 38) 85 (.tmp 37) bq (oq + 4) [iv q2.id, u2] rfl rfl (by kernel_rfl) (by kernel_rfl) (by kernel_rfl) (by kernel_rfl) rfl (by kernel_rfl) rfl (fun wx hSw => hSw.1) hun rfl hS0 (fun _ _ _ h => h) hS ?_
      simp only [Act.put, List.setIfInBounds_toArray, List.set_cons_zero, List.set_cons_succ]
      refine takeD 5 (some 39) (.slice (some ⟨bl, ol, none⟩) 1 cl) rfl rfl (by kernel_rfl) (by kernel_rfl) (by kernel_rfl) (by kernel_rfl) (fun _ _ _ h => h) (Or.inl ⟨by kernel_rfl, fun wx hSw => by go_simp⟩) hS ?_
      simp only [Act.put, List.setIfInBounds_toArray, List.set_cons_zero, List.set_cons_succ]
      refine takeD 6 (some 40) (.pointer (some ⟨bl, ol, none⟩)) rfl rfl (by kernel_rfl) (by kernel_rfl) (by kernel_rfl) (by kernel_rfl) (fun _ _ _ h => h) (Or.inl ⟨by kernel_rfl, fun wx hSw => by go_simp⟩) hS ?_
      simp only [Act.put, List.setIfInBounds_toArray, List.set_cons_zero, List.set_cons_succ]
      refine loadT 7 (some 41) 85 (.tmp 40) bl (ol) [iv y0.id, u0] rfl rfl (by kernel_rfl) (by kernel_rfl) (by kernel_rfl) (by kernel_rfl) rfl (by kernel_rfl) rfl (fun wx hSw => hSw.2) hun rfl hS0 (fun _ _ _ h => h) hS ?_
      simp only [Act.put, List.setIfInBounds_toArray, List.set_cons_zero, List.set_cons_succ]
      have hx0 : Below w2.heap.size w2 w2.drew := c_drew (c_refl _)
      have hK0 := hKid.below hc2 hx0
      have hB0 := hB2.drew
      have hF : NdL (vw (g :: gs) w2.drew) w2.drew.heap.size [q2, y0] [u2, u0] := NdL.keep (vw_keep (w := w2) (w' := w2.drew) hcg (fun k hk => hcg k hk) (fun _ _ _ hr => hr.drew)) _ _ (show NdL (vw (g :: gs) w2) w2.heap.size [q2, y0] [u2, u0] from ⟨hu2, hu0, trivial⟩)
      generalize w2.drew = x0 at *
      have hcx := hcl.below hB0
      have hcgx := hK0.hcl hcx
      have hnew := SlN.newN hcgx [q2, y0] [u2, u0] #[iv q2.id, u2, iv y0.id, u0] hF rfl (by simp)
      refine oneT 8 (by kernel_rfl) rfl (fun K hK => ?_)
      go_simp
      refine hK.out _ _ (fun _ => hkeep _ (c_alloc hx0 _)) ?_
      clear hK K
      have hal1 := d_al x0 (.cells #[iv q2.id, u2, iv y0.id, u0] 85)
      have hK1 := hK0.below hcx hal1
      have hB1 := hB0.alloc hB0.size (.cells #[iv q2.id, u2, iv y0.id, u0] 85)
      have hx1 := c_call hx0 hal1
      generalize x0.heap.size = gn at *
      generalize x0.alloc (.cells #[iv q2.id, u2, iv y0.id, u0] 85) = x1 at *
      have hS1 := hkeep x1 hx1
      refine takeD 9 (some 43) (.agg #[.int .i64 0, .slice (some ⟨gn, 0, none⟩) 2 2]) rfl rfl (by kernel_rfl) (by kernel_rfl) (by kernel_rfl) (by kernel_rfl) (fun _ _ _ h => h) (Or.inl ⟨by kernel_rfl, fun wx hSw => by go_simp⟩) hS1 ?_
      simp only [Act.put, List.setIfInBounds_toArray, List.set_cons_zero, List.set_cons_succ]
      refine oneT 10 (by kernel_rfl) rfl (fun K hK => ?_)
      go_simp
      refine hK.out _ _ (fun _ => hS1) ?_
      clear hK K
      have hnd := hnew.node (by simp)
      have hK2 := hK1.set (i := m) (by first | omega | (simp only [List.length_set]; omega)) hnd
      rw [ofKids_id (by simp)] at hK2
      refine oneT 11 (by kernel_rfl) rfl (fun K hK => ?_)
      refine step_store_midT rfl rfl 85 (.tmp 44) (.tmp 43) rfl g (m * 2) #[.int .i64 0, .slice (some ⟨gn, 0, none⟩) 2 2] rfl rfl (hK1.there (i := m) (by first | omega | (simp only [List.length_set]; omega))) sizeNd (by simp [Value.oneCell']) ?_
      refine hK.out _ _ (fun h => absurd rfl h) ?_
      clear hK K
      refine doneT (by kernel_rfl) ?_ _
      have hB9 := below_setCells hgw [.int .i64 0, .slice (some ⟨gn, 0, none⟩) 2 2] (m * 2) x1 hB1
      have hfin := hK2.sl (hcl.below hB9) hcl.lt
      rw [show ((KL.set a (ofKids (q.kids.take 2))).set m (ofKids [q2, y0])).length = n by simp only [List.length_set]; exact hKl] at hfin
      rw [show (KL.set a (ofKids (q.kids.take 2))).set m (ofKids [q2, y0]) = mendN p y s by rw [Hp1.out, mend_pos3 (by rw [← Hnq.out]; exact h3), hy0, Hq2.out, HK.out, Hp1.out, Ha.out, ← Hp1l.out]; exact set_two _ _ _ _ _ _] at hfin
      go_wp2_with fail
      go_ret
      exact ⟨hB9, _, _, _, rfl, hfin⟩
    · have hn2 : nq = 2 := by have := Hql.out; have := Hnq.out; omega
      have z3 : (n : Int) ≤ (c8 : Int) := by have := hKid.row.1; omega
      have hqk0 : 0 < q.kids.length := by have := Hnq.out; omega
      have hqk1 : 1 < q.kids.length := by have := Hnq.out; omega
      obtain ⟨u1, hu1, r1, _, hlt1⟩ := hSq.at0 hcg (i := 0) hqk0
      obtain ⟨u2, hu2, r2, _, hlt2⟩ := hSq.at0 hcg (i := 1) hqk1
      obtain ⟨u0, hu0, r0, _, hlt0⟩ := hSl.at0 hcg (i := 0) (by simp)
      have Hq2 := Lib.hid (two_list (l := q.kids) (by have := Hnq.out; omega) hqk0 hqk1)
      have Hn2 := Lib.hid hn2
      clear hn2
      generalize q.kids[0] = q1 at *
      generalize q.kids[1] = q2 at *
      rw [show ([y0] : List Nd)[0] = y0 from rfl] at hu0 r0
      go_upto_region 9 with fail
      try simp only [Act.put]
      have z5 : (1 : Int) < (nq : Int) := by have := Hn2.out; omega
      have z6 : (0 : Int) < (nq : Int) := by omega
      have z7 : ¬ nq = 0 := by omega
      have hun := Try.underlying85
      have hS0 : (Try.prog.info? 85).map (·.size) = some 2 := sizeNd
      have hkeep : ∀ wx : World, Below w1.heap.size w1 wx → wx.rangeAt bq (oq) [iv q1.id, u1] ∧ wx.rangeAt bq (oq + 2) [iv q2.id, u2] ∧ wx.rangeAt bl (ol) [iv y0.id, u0] := fun wx hb => ⟨rk hb r1 hlt1, rk hb r2 hlt2, rk hb r0 hlt0⟩
      refine beginT (fun wx => wx.rangeAt bq (oq) [iv q1.id, u1] ∧ wx.rangeAt bq (oq + 2) [iv q2.id, u2] ∧ wx.rangeAt bl (ol) [iv y0.id, u0]) 15 (by kernel_rfl) ?_
      have hS := hkeep _ (c_drew (c_refl _))
      refine takeD 0 (some 46) (.slice (some ⟨g, 0, none⟩) n c8) rfl rfl (by kernel_rfl) (by kernel_rfl) (by kernel_rfl) (by kernel_rfl) (fun _ _ _ h => h) (Or.inl ⟨by kernel_rfl, fun wx hSw => by go_simp⟩) hS ?_
      simp only [Act.put, List.setIfInBounds_toArray, List.set_cons_zero, List.set_cons_succ]
      refine takeD 1 (some 47) (.int .i64 (m : Int)) rfl rfl (by kernel_rfl) (by kernel_rfl) (by kernel_rfl) (by kernel_rfl) (fun _ _ _ h => h) (Or.inl ⟨by kernel_rfl, fun wx hSw => by go_simp⟩) hS ?_
      simp only [Act.put, List.setIfInBounds_toArray, List.set_cons_zero, List.set_cons_succ]
      refine takeD 2 (some 48) (.int .i64 (a : Int)) rfl rfl (by kernel_rfl) (by kernel_rfl) (by kernel_rfl) (by kernel_rfl) (fun _ _ _ h => h) (Or.inl ⟨by kernel_rfl, fun wx hSw => by go_simp⟩) hS ?_
      simp only [Act.put, List.setIfInBounds_toArray, List.set_cons_zero, List.set_cons_succ]
      refine takeD 3 (some 49) (.slice (some ⟨bq, oq, none⟩) nq cq) rfl rfl (by kernel_rfl) (by kernel_rfl) (by kernel_rfl) (by kernel_rfl) (fun _ _ _ h => h) (Or.inl ⟨by kernel_rfl, fun wx hSw => by go_simp⟩) hS ?_
      simp only [Act.put, List.setIfInBounds_toArray, List.set_cons_zero, List.set_cons_succ]
      refine takeD 4 (some 50) (.pointer (some ⟨bq, oq, none⟩)) rfl rfl (by kernel_rfl) (by kernel_rfl) (by kernel_rfl) (by kernel_rfl) (fun _ _ _ h => h) (Or.inl ⟨by kernel_rfl, fun wx hSw => by go_simp⟩) hS ?_
      simp only [Act.put, List.setIfInBounds_toArray, List.set_cons_zero, List.set_cons_succ]
      refine loadT 5 (some 51) 85 (.tmp 50) bq (oq) [iv q1.id, u1] rfl rfl (by kernel_rfl) (by kernel_rfl) (by kernel_rfl) (by kernel_rfl) rfl (by kernel_rfl) rfl (fun wx hSw => hSw.1) hun rfl hS0 (fun _ _ _ h => h) hS ?_
      simp only [Act.put, List.setIfInBounds_toArray, List.set_cons_zero, List.set_cons_succ]
      refine takeD 6 (some 52) (.slice (some ⟨bq, oq, none⟩) nq cq) rfl rfl (by kernel_rfl) (by kernel_rfl) (by kernel_rfl) (by kernel_rfl) (fun _ _ _ h => h) (Or.inl ⟨by kernel_rfl, fun wx hSw => by go_simp⟩) hS ?_
      simp only [Act.put, List.setIfInBounds_toArray, List.set_cons_zero, List.set_cons_succ]
      refine takeD 7 (some 53) (.pointer (some ⟨bq, oq + 2, none⟩)) rfl rfl (by kernel_rfl) (by kernel_rfl) (by kernel_rfl) (by kernel_rfl) (fun _ _ _ h => h) (Or.inl ⟨by kernel_rfl, fun wx hSw => by go_simp⟩) hS ?_
      simp only [Act.put, List.setIfInBounds_toArray, List.set_cons_zero, List.set_cons_succ]
      refine loadT 8 (some 54) 85 (.tmp 53) bq (oq + 2) [iv q2.id, u2] rfl rfl (by kernel_rfl) (by kernel_rfl) (by kernel_rfl) (by kernel_rfl) rfl (by kernel_rfl) rfl (fun wx hSw => hSw.2.1) hun rfl hS0 (fun _ _ _ h => h) hS ?_
      simp only [Act.put, List.setIfInBounds_toArray, List.set_cons_zero, List.set_cons_succ]
      refine takeD 9 (some 55) (.slice (some ⟨bl, ol, none⟩) 1 cl) rfl rfl (by kernel_rfl) (by kernel_rfl) (by kernel_rfl) (by kernel_rfl) (fun _ _ _ h => h) (Or.inl ⟨by kernel_rfl, fun wx hSw => by go_simp⟩) hS ?_
      simp only [Act.put, List.setIfInBounds_toArray, List.set_cons_zero, List.set_cons_succ]
      refine takeD 10 (some 56) (.pointer (some ⟨bl, ol, none⟩)) rfl rfl (by kernel_rfl) (by kernel_rfl) (by kernel_rfl) (by kernel_rfl) (fun _ _ _ h => h) (Or.inl ⟨by kernel_rfl, fun wx hSw => by go_simp⟩) hS ?_
      simp only [Act.put, List.setIfInBounds_toArray, List.set_cons_zero, List.set_cons_succ]
      refine loadT 11 (some 57) 85 (.tmp 56) bl (ol) [iv y0.id, u0] rfl rfl (by kernel_rfl) (by kernel_rfl) (by kernel_rfl) (by kernel_rfl) rfl (by kernel_rfl) rfl (fun wx hSw => hSw.2.2) hun rfl hS0 (fun _ _ _ h => h) hS ?_
      simp only [Act.put, List.setIfInBounds_toArray, List.set_cons_zero, List.set_cons_succ]
      have hx0 : Below w1.heap.size w1 w1.drew := c_drew (c_refl _)
      have hK0 := hKid.below hc1 hx0
      have hB0 := hB.drew
      have hF : NdL (vw (g :: gs) w1.drew) w1.drew.heap.size [q1, q2, y0] [u1, u2, u0] := NdL.keep (vw_keep (w := w1) (w' := w1.drew) hcg (fun k hk => hcg k hk) (fun _ _ _ hr => hr.drew)) _ _ (show NdL (vw (g :: gs) w1) w1.heap.size [q1, q2, y0] [u1, u2, u0] from ⟨hu1, hu2, hu0, trivial⟩)
      generalize w1.drew = x0 at *
      have hcx := hcl.below hB0
      have hcgx := hK0.hcl hcx
      have hnew := SlN.newN hcgx [q1, q2, y0] [u1, u2, u0] #[iv q1.id, u1, iv q2.id, u2, iv y0.id, u0] hF rfl (by simp)
      refine oneT 12 (by kernel_rfl) rfl (fun K hK => ?_)
      go_simp
      refine hK.out _ _ (fun _ => hkeep _ (c_alloc hx0 _)) ?_
      clear hK K
      have hal1 := d_al x0 (.cells #[iv q1.id, u1, iv q2.id, u2, iv y0.id, u0] 85)
      have hK1 := hK0.below hcx hal1
      have hB1 := hB0.alloc hB0.size (.cells #[iv q1.id, u1, iv q2.id, u2, iv y0.id, u0] 85)
      have hx1 := c_call hx0 hal1
      generalize x0.heap.size = gn at *
      generalize x0.alloc (.cells #[iv q1.id, u1, iv q2.id, u2, iv y0.id, u0] 85) = x1 at *
      have hS1 := hkeep x1 hx1
      refine takeD 13 (some 59) (.agg #[.int .i64 0, .slice (some ⟨gn, 0, none⟩) 3 3]) rfl rfl (by kernel_rfl) (by kernel_rfl) (by kernel_rfl) (by kernel_rfl) (fun _ _ _ h => h) (Or.inl ⟨by kernel_rfl, fun wx hSw => by go_simp⟩) hS1 ?_
      simp only [Act.put, List.setIfInBounds_toArray, List.set_cons_zero, List.set_cons_succ]
      refine oneT 14 (by kernel_rfl) rfl (fun K hK => ?_)
      go_simp
      refine hK.out _ _ (fun _ => hS1) ?_
      clear hK K
      have hnd := hnew.node (by simp)
      have hK2 := hK1.set (i := a) (by first | omega | (simp only [List.length_set]; omega)) hnd
      rw [ofKids_id (by simp)] at hK2
      refine oneT 15 (by kernel_rfl) rfl (fun K hK => ?_)
      refine step_store_midT rfl rfl 85 (.tmp 60) (.tmp 59) rfl g (a * 2) #[.int .i64 0, .slice (some ⟨gn, 0, none⟩) 3 3] rfl rfl (hK1.there (i := a) (by first | omega | (simp only [List.length_set]; omega))) sizeNd (by simp [Value.oneCell']) ?_
      refine hK.out _ _ (fun h => absurd rfl h) ?_
      clear hK K
      refine doneT (by kernel_rfl) ?_ _
      go_wp2_with fail
      refine wp_gen (fun wx => Below w.heap.size w wx ∧ KidR gs w.heap.size wx g c8 (KL.set a (ofKids [q1, q2, y0]))) ⟨below_setCells hgw [.int .i64 0, .slice (some ⟨gn, 0, none⟩) 3 3] (a * 2) x1 hB1, hK2⟩ ?_
      clear hK2 hK1 hB1 hnd hnew hK0 hB0 hF hcgx hcx hal1 hx1 hx0 hS1 hkeep hSg hSq hSl hc1 hcg hB hKid k1 kq
      rintro w3 ⟨hB3, hKid⟩
      have hc3 := hcl.below hB3
      have hcg := hKid.hcl hc3
      obtain ⟨KM, hKM⟩ : ∃ KM, KM = KL.set a (ofKids [q1, q2, y0]) := ⟨_, rfl⟩
      rw [← hKM] at hKid
      have hMl : KM.length = n := by rw [hKM, List.length_set]; exact hKl
      have HKM := Lib.hid hKM
      clear hKM
      have y0w : IntKind.i64.wrap ((m : Int) + 1) = (m : Int) + 1 := by rw [IntKind.wrap_i64]; omega
      have y1 : ((m : Int) + 1).toNat = m + 1 := by omega
      have y2 : (0 : Int) ≤ (m : Int) + 1 := by omega
      have y3 : (m : Int) + 1 ≤ (n : Int) := by omega
      have y4 : (m : Int) ≤ (c8 : Int) := by omega
      have y5 : (0 : Int) ≤ (m : Int) := by omega
      obtain ⟨vs, hvl, hpre, hNv, hrg⟩ := hKid.pre (k := m) (by omega)
      have hm1v : (vs.take m).length = (KM.take m).length := by simp [hvl]
      obtain ⟨At, hAt⟩ : ∃ At : Option Addr, At = if c8 = m + 1 then some ⟨g, 0, none⟩ else some ⟨g, (m + 1) * 2, none⟩ := ⟨_, rfl⟩
      have htl := hKid.tail hvl hrg (k := m + 1) (by omega) At hAt
      rw [hMl] at htl
      have hNt : NdL (vw (g :: gs) w3) w3.heap.size (KM.drop (m + 1)) (vs.drop (m + 1)) := by
        have h := hNv
        rw [← List.take_append_drop (m + 1) KM] at h
        have h2 := h.split.2
        rwa [show (KM.take (m + 1)).length = m + 1 by rw [List.length_take]; omega] at h2
      have hNp : NdL (vw (g :: gs) w3) w3.heap.size (KM.take m) (vs.take m) := by
        have h := hNv
        rw [← List.take_append_drop m KM] at h
        have h2 := h.split.1
        rwa [show (KM.take m).length = m by rw [List.length_take]; omega] at h2
      have HE := Lib.hid (show KM.take m ++ KM.drop (m + 1) = mendN p y s by
        rw [Hp1.out, mend_pos2 (by rw [← Hnq.out]; exact h3), hy0, HKM.out, HK.out, Hp1.out, Ha.out, ← Hp1l.out, Hq2.out]
        exact cut_two _ _ _ _ _)
      have hwo := one_of hNt
      have hlb := hB3.size
      clear hrg hNv HKM
      by_cases hcc : c8 = m + 1
      · have y6 : ¬ ((m : Int) + 1 < (m : Int)) := by omega
        have hAt2 : At = (some ⟨g, 0, none⟩) := by rw [hAt, if_pos hcc]
        rw [hAt2] at htl
        clear hAt hAt2
        have hkeep : ∀ wx : World, Below w3.heap.size w3 wx → True := fun _ _ => trivial
        refine beginT (fun _ => True) 8 (by kernel_rfl) ?_
        have hS := hkeep _ (c_drew (c_refl _))
        refine takeD 0 (some 61) (.slice (some ⟨g, 0, none⟩) n c8) rfl rfl (by kernel_rfl) (by kernel_rfl) (by kernel_rfl) (by kernel_rfl) (fun _ _ _ h => h) (Or.inl ⟨by kernel_rfl, fun wx hSw => by go_simp⟩) hS ?_
        simp only [Act.put, List.setIfInBounds_toArray, List.set_cons_zero, List.set_cons_succ]
        refine takeD 1 (some 62) (.int .i64 (m : Int)) rfl rfl (by kernel_rfl) (by kernel_rfl) (by kernel_rfl) (by kernel_rfl) (fun _ _ _ h => h) (Or.inl ⟨by kernel_rfl, fun wx hSw => by go_simp⟩) hS ?_
        simp only [Act.put, List.setIfInBounds_toArray, List.set_cons_zero, List.set_cons_succ]
        refine takeD 2 (some 63) (.slice (some ⟨g, 0, none⟩) m c8) rfl rfl (by kernel_rfl) (by kernel_rfl) (by kernel_rfl) (by kernel_rfl) (fun _ _ _ h => h) (Or.inl ⟨by kernel_rfl, fun wx hSw => by go_simp⟩) hS ?_
        simp only [Act.put, List.setIfInBounds_toArray, List.set_cons_zero, List.set_cons_succ]
        refine takeD 3 (some 64) (.slice (some ⟨g, 0, none⟩) n c8) rfl rfl (by kernel_rfl) (by kernel_rfl) (by kernel_rfl) (by kernel_rfl) (fun _ _ _ h => h) (Or.inl ⟨by kernel_rfl, fun wx hSw => by go_simp⟩) hS ?_
        simp only [Act.put, List.setIfInBounds_toArray, List.set_cons_zero, List.set_cons_succ]
        refine takeD 4 (some 65) (.int .i64 (m : Int)) rfl rfl (by kernel_rfl) (by kernel_rfl) (by kernel_rfl) (by kernel_rfl) (fun _ _ _ h => h) (Or.inl ⟨by kernel_rfl, fun wx hSw => by go_simp⟩) hS ?_
        simp only [Act.put, List.setIfInBounds_toArray, List.set_cons_zero, List.set_cons_succ]
        refine takeD 5 (some 66) (.int .i64 ((m : Int) + 1)) rfl rfl (by kernel_rfl) (by kernel_rfl) (by kernel_rfl) (by kernel_rfl) (fun _ _ _ h => h) (Or.inl ⟨by kernel_rfl, fun wx hSw => by go_simp⟩) hS ?_
        simp only [Act.put, List.setIfInBounds_toArray, List.set_cons_zero, List.set_cons_succ]
        refine takeD 6 (some 67) (.slice (some ⟨g, 0, none⟩) (n - (m + 1)) (c8 - (m + 1))) rfl rfl (by kernel_rfl) (by kernel_rfl) (by kernel_rfl) (by kernel_rfl) (fun _ _ _ h => h) (Or.inl ⟨by kernel_rfl, fun wx hSw => by go_simp⟩) hS ?_
        simp only [Act.put, List.setIfInBounds_toArray, List.set_cons_zero, List.set_cons_succ]
        have hx0 : Below w3.heap.size w3 w3.drew := c_drew (c_refl _)
        have hpre0 := own_below hpre hx0
        have htl0 := d_rd htl hx0
        have hcx := hcl.below hB3.drew
        have hcgx := hcg.below hx0
        have hNp0 := NdL.keep (vw_keep hcg hcgx (fun _ _ _ hr => hr.below hx0)) _ _ hNp
        have hNt0 := NdL.keep (vw_keep hcg hcgx (fun _ _ _ hr => hr.below hx0)) _ _ hNt
        have hB0 := hB3.drew
        have hsx : w3.heap.size = w3.drew.heap.size := rfl
        generalize w3.drew = x0 at *
        refine oneT 7 (by kernel_rfl) rfl (fun K hK => ?_)
        refine step_append_nd (by kernel_rfl) (some 68) rfl (.tmp 63) (.tmp 67) rfl w.heap.size (some ⟨g, 0, none⟩) m c8 (KM.take m) (vs.take m) rfl hpre0 x0.heap.size (some ⟨g, 0, none⟩) (n - (m + 1)) (c8 - (m + 1)) (KM.drop (m + 1)) (vs.drop (m + 1)) rfl hwo htl0 (by omega) (by omega) hm1v ?_
        intro A9 c9 w9 hown9 hgr9 hat9
        have hB9 := hB0.grown hgr9 hB0.size (fun k hk => by simp [Value.ownBlock] at hk; omega)
        have hc9 := hcl.below hB9
        have hc9l := hc9.own hown9
        have hs9 := hgr9.size
        have hst := vw_step (v := .slice (some ⟨g, 0, none⟩) m c8) (gs := gs) hcgx hc9 hc9l hgr9 hat9 (B := w3.heap.size) (by omega)
        have hNb := NdL.keep hst _ _ hNp0
        have hNc := NdL.keep hst _ _ hNt0
        have hNall := (NdL.keep (vw_less hc9l) _ _ hNb).app (NdL.keep (vw_less hc9l) _ _ hNc)
        have hfin := SlN.of_own (own_vw hown9 hcl.lt) (by rw [vw_size]; exact hNall.more (by omega))
        rw [vw_size, HE.out] at hfin
        refine hK.out _ _ (fun _ => trivial) ?_
        clear hK K
        simp only [Act.put, List.setIfInBounds_toArray, List.set_cons_zero, List.set_cons_succ]
        refine oneT 8 (by kernel_rfl) rfl (fun K hK => ?_)
        go_simp
        refine hK.out _ _ (fun _ => trivial) ?_
        clear hK K
        refine doneT (by kernel_rfl) ?_ _
        go_wp2_with fail
        go_ret
        exact ⟨hB9, _, _, _, rfl, hfin⟩
      · have y6 : ¬ ((m : Int) + 1 < (m : Int)) := by omega
        have hAt2 : At = (some ⟨g, (m + 1) * 2, none⟩) := by rw [hAt, if_neg hcc]
        rw [hAt2] at htl
        clear hAt hAt2
        have hkeep : ∀ wx : World, Below w3.heap.size w3 wx → True := fun _ _ => trivial
        refine beginT (fun _ => True) 8 (by kernel_rfl) ?_
        have hS := hkeep _ (c_drew (c_refl _))
        refine takeD 0 (some 61) (.slice (some ⟨g, 0, none⟩) n c8) rfl rfl (by kernel_rfl) (by kernel_rfl) (by kernel_rfl) (by kernel_rfl) (fun _ _ _ h => h) (Or.inl ⟨by kernel_rfl, fun wx hSw => by go_simp⟩) hS ?_
        simp only [Act.put, List.setIfInBounds_toArray, List.set_cons_zero, List.set_cons_succ]
        refine takeD 1 (some 62) (.int .i64 (m : Int)) rfl rfl (by kernel_rfl) (by kernel_rfl) (by kernel_rfl) (by kernel_rfl) (fun _ _ _ h => h) (Or.inl ⟨by kernel_rfl, fun wx hSw => by go_simp⟩) hS ?_
        simp only [Act.put, List.setIfInBounds_toArray, List.set_cons_zero, List.set_cons_succ]
        refine takeD 2 (some 63) (.slice (some ⟨g, 0, none⟩) m c8) rfl rfl (by kernel_rfl) (by kernel_rfl) (by kernel_rfl) (by kernel_rfl) (fun _ _ _ h => h) (Or.inl ⟨by kernel_rfl, fun wx hSw => by go_simp⟩) hS ?_
        simp only [Act.put, List.setIfInBounds_toArray, List.set_cons_zero, List.set_cons_succ]
        refine takeD 3 (some 64) (.slice (some ⟨g, 0, none⟩) n c8) rfl rfl (by kernel_rfl) (by kernel_rfl) (by kernel_rfl) (by kernel_rfl) (fun _ _ _ h => h) (Or.inl ⟨by kernel_rfl, fun wx hSw => by go_simp⟩) hS ?_
        simp only [Act.put, List.setIfInBounds_toArray, List.set_cons_zero, List.set_cons_succ]
        refine takeD 4 (some 65) (.int .i64 (m : Int)) rfl rfl (by kernel_rfl) (by kernel_rfl) (by kernel_rfl) (by kernel_rfl) (fun _ _ _ h => h) (Or.inl ⟨by kernel_rfl, fun wx hSw => by go_simp⟩) hS ?_
        simp only [Act.put, List.setIfInBounds_toArray, List.set_cons_zero, List.set_cons_succ]
        refine takeD 5 (some 66) (.int .i64 ((m : Int) + 1)) rfl rfl (by kernel_rfl) (by kernel_rfl) (by kernel_rfl) (by kernel_rfl) (fun _ _ _ h => h) (Or.inl ⟨by kernel_rfl, fun wx hSw => by go_simp⟩) hS ?_
        simp only [Act.put, List.setIfInBounds_toArray, List.set_cons_zero, List.set_cons_succ]
        refine takeD 6 (some 67) (.slice (some ⟨g, (m + 1) * 2, none⟩) (n - (m + 1)) (c8 - (m + 1))) rfl rfl (by kernel_rfl) (by kernel_rfl) (by kernel_rfl) (by kernel_rfl) (fun _ _ _ h => h) (Or.inl ⟨by kernel_rfl, fun wx hSw => by go_simp⟩) hS ?_
        simp only [Act.put, List.setIfInBounds_toArray, List.set_cons_zero, List.set_cons_succ]
        have hx0 : Below w3.heap.size w3 w3.drew := c_drew (c_refl _)
        have hpre0 := own_below hpre hx0
        have htl0 := d_rd htl hx0
        have hcx := hcl.below hB3.drew
        have hcgx := hcg.below hx0
        have hNp0 := NdL.keep (vw_keep hcg hcgx (fun _ _ _ hr => hr.below hx0)) _ _ hNp
        have hNt0 := NdL.keep (vw_keep hcg hcgx (fun _ _ _ hr => hr.below hx0)) _ _ hNt
        have hB0 := hB3.drew
        have hsx : w3.heap.size = w3.drew.heap.size := rfl
        generalize w3.drew = x0 at *
        refine oneT 7 (by kernel_rfl) rfl (fun K hK => ?_)
        refine step_append_nd (by kernel_rfl) (some 68) rfl (.tmp 63) (.tmp 67) rfl w.heap.size (some ⟨g, 0, none⟩) m c8 (KM.take m) (vs.take m) rfl hpre0 x0.heap.size (some ⟨g, (m + 1) * 2, none⟩) (n - (m + 1)) (c8 - (m + 1)) (KM.drop (m + 1)) (vs.drop (m + 1)) rfl hwo htl0 (by omega) (by omega) hm1v ?_
        intro A9 c9 w9 hown9 hgr9 hat9
        have hB9 := hB0.grown hgr9 hB0.size (fun k hk => by simp [Value.ownBlock] at hk; omega)
        have hc9 := hcl.below hB9
        have hc9l := hc9.own hown9
        have hs9 := hgr9.size
        have hst := vw_step (v := .slice (some ⟨g, 0, none⟩) m c8) (gs := gs) hcgx hc9 hc9l hgr9 hat9 (B := w3.heap.size) (by omega)
        have hNb := NdL.keep hst _ _ hNp0
        have hNc := NdL.keep hst _ _ hNt0
        have hNall := (NdL.keep (vw_less hc9l) _ _ hNb).app (NdL.keep (vw_less hc9l) _ _ hNc)
        have hfin := SlN.of_own (own_vw hown9 hcl.lt) (by rw [vw_size]; exact hNall.more (by omega))
        rw [vw_size, HE.out] at hfin
        refine hK.out _ _ (fun _ => trivial) ?_
        clear hK K
        simp only [Act.put, List.setIfInBounds_toArray, List.set_cons_zero, List.set_cons_succ]
        refine oneT 8 (by kernel_rfl) rfl (fun K hK => ?_)
        go_simp
        refine hK.out _ _ (fun _ => trivial) ?_
        clear hK K
        refine doneT (by kernel_rfl) ?_ _
        go_wp2_with fail
        go_ret
        exact ⟨hB9, _, _, _, rfl, hfin⟩
  · have hm0 : ¬ (0 : Int) < (m : Int) := by omega
    have hme : m = 0 := by omega
    have Hp0 := Lib.hid (show p = [] from List.length_eq_zero_iff.1 (by rw [← Hm.out]; exact hme))
    have hn2n : 2 ≤ n := by have := Hn.out; omega
    have hal : 1 < KL.length := by omega
    obtain ⟨vq, hvq, rq, kq, _⟩ := hSg.at0 hcg (i := 1) hal
    obtain ⟨q, hq⟩ : ∃ q, q = KL[1] := ⟨_, rfl⟩
    rw [← hq] at hvq rq
    obtain ⟨s1, hs1⟩ : ∃ s1, s = q :: s1 := by
      have e : KL = y :: s := by rw [HK.out, Hp0.out]; rfl
      match s, e with
      | [], e => rw [e] at hal; simp at hal
      | q2 :: s1, e => exact ⟨s1, by rw [hq]; simp only [e]; rfl⟩
    have hql : q.kids.length = 2 ∨ q.kids.length = 3 := Hz.out q (by rw [hs1]; simp)
    have HKy := Lib.hid (show KL = y :: q :: s1 by rw [HK.out, Hp0.out, hs1]; rfl)
    obtain ⟨Aq, cq, rfl, hSq⟩ := hvq.kids
    obtain ⟨bq, oq, rfl⟩ := hSq.ad (by omega)
    have hqc := hSq.2.1
    have Hs1 := Lib.hid hs1
    have Hql := Lib.hid hql
    have Hme := Lib.hid hme
    clear hq hs1 hql rq hvq hme
    obtain ⟨nq, hnq⟩ : ∃ nq, nq = q.kids.length := ⟨_, rfl⟩
    rw [← hnq] at hSq hqc kq
    have Hnq := Lib.hid hnq
    clear hnq
    have z2 : (1 : Int) < (n : Int) := by omega
    have z3 : (n : Int) ≤ (c8 : Int) := by have := hKid.row.1; omega
    have z8 : ¬ n = 0 := by omega
    have z9 : ¬ n = 1 := by omega
    have z10 : (0 : Int) < (n : Int) := by omega
    have kq3 : w1.cell? ⟨b, o + 3, none⟩ = some (.slice (some ⟨bq, oq, none⟩) nq cq) := kq
    clear kq
    by_cases h3 : nq = 3
    · have hqk0 : 0 < q.kids.length := by have := Hnq.out; omega
      obtain ⟨u1, hu1, r1, _, hlt1⟩ := hSq.at0 hcg (i := 0) hqk0
      obtain ⟨u0, hu0, r0, _, hlt0⟩ := hSl.at0 hcg (i := 0) (by simp)
      have Hq2 := Lib.hid (show q.kids.take 1 = [q.kids[0]] by rw [List.take_succ_eq_append_getElem hqk0]; rfl)
      have z5 : (1 : Int) < (nq : Int) := by omega
      have z6 : (0 : Int) < (nq : Int) := by omega
      have z7 : ¬ nq = 0 := by omega
      generalize q.kids[0] = q1 at *
      rw [show ([y0] : List Nd)[0] = y0 from rfl] at hu0 r0
      go_upto_region 13 with fail
      try simp only [Act.put]
      have hun := Try.underlying85
      have hS0 : (Try.prog.info? 85).map (·.size) = some 2 := sizeNd
      have hkeep : ∀ wx : World, Below w1.heap.size w1 wx → wx.rangeAt bl (ol) [iv y0.id, u0] ∧ wx.rangeAt bq (oq) [iv q1.id, u1] := fun wx hb => ⟨rk hb r0 hlt0, rk hb r1 hlt1⟩
      refine beginT (fun wx => wx.rangeAt bl (ol) [iv y0.id, u0] ∧ wx.rangeAt bq (oq) [iv q1.id, u1]) 10 (by kernel_rfl) ?_
      have hS := hkeep _ (c_drew (c_refl _))
      refine takeD 0 (some 76) (.slice (some ⟨g, 0, none⟩) n c8) rfl rfl (by kernel_rfl) (by kernel_rfl) (by kernel_rfl) (by kernel_rfl) (fun _ _ _ h => h) (Or.inl ⟨by kernel_rfl, fun wx hSw => by go_simp⟩) hS ?_
      simp only [Act.put, List.setIfInBounds_toArray, List.set_cons_zero, List.set_cons_succ]
      refine takeD 1 (some 77) (.slice (some ⟨bl, ol, none⟩) 1 cl) rfl rfl (by kernel_rfl) (by kernel_rfl) (by kernel_rfl) (by kernel_rfl) (fun _ _ _ h => h) (Or.inl ⟨by kernel_rfl, fun wx hSw => by go_simp⟩) hS ?_
      simp only [Act.put, List.setIfInBounds_toArray, List.set_cons_zero, List.set_cons_succ]
      refine takeD 2 (some 78) (.pointer (some ⟨bl, ol, none⟩)) rfl rfl (by kernel_rfl) (by kernel_rfl) (by kernel_rfl) (by kernel_rfl) (fun _ _ _ h => h) (Or.inl ⟨by kernel_rfl, fun wx hSw => by go_simp⟩) hS ?_
      simp only [Act.put, List.setIfInBounds_toArray, List.set_cons_zero, List.set_cons_succ]
      refine loadT 3 (some 79) 85 (.tmp 78) bl (ol) [iv y0.id, u0] rfl rfl (by kernel_rfl) (by kernel_rfl) (by kernel_rfl) (by kernel_rfl) rfl (by kernel_rfl) rfl (fun wx hSw => hSw.1) hun rfl hS0 (fun _ _ _ h => h) hS ?_
      simp only [Act.put, List.setIfInBounds_toArray, List.set_cons_zero, List.set_cons_succ]
      refine takeD 4 (some 80) (.slice (some ⟨bq, oq, none⟩) nq cq) rfl rfl (by kernel_rfl) (by kernel_rfl) (by kernel_rfl) (by kernel_rfl) (fun _ _ _ h => h) (Or.inl ⟨by kernel_rfl, fun wx hSw => by go_simp⟩) hS ?_
      simp only [Act.put, List.setIfInBounds_toArray, List.set_cons_zero, List.set_cons_succ]
      refine takeD 5 (some 81) (.pointer (some ⟨bq, oq, none⟩)) rfl rfl (by kernel_rfl) (by kernel_rfl) (by kernel_rfl) (by kernel_rfl) (fun _ _ _ h => h) (Or.inl ⟨by kernel_rfl, fun wx hSw => by go_simp⟩) hS ?_
      simp only [Act.put, List.setIfInBounds_toArray, List.set_cons_zero, List.set_cons_succ]
      refine loadT 6 (some 82) 85 (.tmp 81) bq (oq) [iv q1.id, u1] rfl rfl (by kernel_rfl) (by kernel_rfl) (by kernel_rfl) (by kernel_rfl) rfl (by kernel_rfl) rfl (fun wx hSw => hSw.2) hun rfl hS0 (fun _ _ _ h => h) hS ?_
      simp only [Act.put, List.setIfInBounds_toArray, List.set_cons_zero, List.set_cons_succ]
      have hx0 : Below w1.heap.size w1 w1.drew := c_drew (c_refl _)
      have hK0 := hKid.below hc1 hx0
      have hB0 := hB.drew
      have hF : NdL (vw (g :: gs) w1.drew) w1.drew.heap.size [y0, q1] [u0, u1] := NdL.keep (vw_keep (w := w1) (w' := w1.drew) hcg (fun k hk => hcg k hk) (fun _ _ _ hr => hr.drew)) _ _ (show NdL (vw (g :: gs) w1) w1.heap.size [y0, q1] [u0, u1] from ⟨hu0, hu1, trivial⟩)
      generalize w1.drew = x0 at *
      have hcx := hcl.below hB0
      have hcgx := hK0.hcl hcx
      have hnew := SlN.newN hcgx [y0, q1] [u0, u1] #[iv y0.id, u0, iv q1.id, u1] hF rfl (by simp)
      refine oneT 7 (by kernel_rfl) rfl (fun K hK => ?_)
      go_simp
      refine hK.out _ _ (fun _ => hkeep _ (c_alloc hx0 _)) ?_
      clear hK K
      have hal1 := d_al x0 (.cells #[iv y0.id, u0, iv q1.id, u1] 85)
      have hK1 := hK0.below hcx hal1
      have hB1 := hB0.alloc hB0.size (.cells #[iv y0.id, u0, iv q1.id, u1] 85)
      have hx1 := c_call hx0 hal1
      generalize x0.heap.size = gn at *
      generalize x0.alloc (.cells #[iv y0.id, u0, iv q1.id, u1] 85) = x1 at *
      have hS1 := hkeep x1 hx1
      refine takeD 8 (some 84) (.agg #[.int .i64 0, .slice (some ⟨gn, 0, none⟩) 2 2]) rfl rfl (by kernel_rfl) (by kernel_rfl) (by kernel_rfl) (by kernel_rfl) (fun _ _ _ h => h) (Or.inl ⟨by kernel_rfl, fun wx hSw => by go_simp⟩) hS1 ?_
      simp only [Act.put, List.setIfInBounds_toArray, List.set_cons_zero, List.set_cons_succ]
      refine oneT 9 (by kernel_rfl) rfl (fun K hK => ?_)
      go_simp
      refine hK.out _ _ (fun _ => hS1) ?_
      clear hK K
      have hnd := hnew.node (by simp)
      have hK2 := hK1.set (i := 0) (by first | omega | (simp only [List.length_set]; omega)) hnd
      rw [ofKids_id (by simp)] at hK2
      refine oneT 10 (by kernel_rfl) rfl (fun K hK => ?_)
      refine step_store_midT rfl rfl 85 (.tmp 85) (.tmp 84) rfl g (0) #[.int .i64 0, .slice (some ⟨gn, 0, none⟩) 2 2] rfl rfl (hK1.there (i := 0) (by first | omega | (simp only [List.length_set]; omega))) sizeNd (by simp [Value.oneCell']) ?_
      refine hK.out _ _ (fun h => absurd rfl h) ?_
      clear hK K
      refine doneT (by kernel_rfl) ?_ _
      have hBs := below_setCells hgw [.int .i64 0, .slice (some ⟨gn, 0, none⟩) 2 2] 0 x1 hB1
      have hvw := vw_setCells g gs [.int .i64 0, .slice (some ⟨gn, 0, none⟩) 2 2] 0 x1
      have hzs := size_setCellsT g [.int .i64 0, .slice (some ⟨gn, 0, none⟩) 2 2] 0 x1
      have hSq9 : SlN (vw (g :: gs) x1) x1.heap.size (some ⟨bq, oq, none⟩) nq cq q.kids := hSq.keep (vw_keep hcg (hcg.below hx1) (fun _ _ _ hr => (hr.below hx1).more hx1.size))
      rw [← hvw, ← hzs] at hSq9
      go_upto_region 14 with fail
      try simp only [Act.put]
      refine wp_gen (fun wx => Below w.heap.size w wx ∧ KidR gs w.heap.size wx g c8 (KL.set 0 (ofKids [y0, q1])) ∧ SlN (vw (g :: gs) wx) wx.heap.size (some ⟨bq, oq, none⟩) nq cq q.kids) ⟨hBs, hK2, hSq9⟩ ?_
      clear hSq9 hvw hzs hBs hK2 hK1 hB1 hnd hnew hK0 hB0 hF hcgx hcx hal1 hx1 hx0 hS1 hkeep hSg hSq hSl hc1 hcg hB hKid k1 kq3
      rintro w3 ⟨hB3, hKid, hSq⟩
      have hc3 := hcl.below hB3
      have hcg := hKid.hcl hc3
      have g4 : (nq : Int) ≤ (cq : Int) := by omega
      have g5 : ¬ cq = 1 := by omega
      have g6 : (1 : Int) ≤ (nq : Int) := by omega
      have hcut := hSq.cut (k := 1) (by omega)
      rw [if_neg g5] at hcut
      have hl2 : (q.kids.drop 1).length = nq - 1 := hcut.1
      have hnd := hcut.node (by omega)
      have g7 : nq - 1 = 2 := by omega
      rw [g7] at hnd
      have hal2 : 1 < (KL.set 0 (ofKids [y0, q1])).length := by rw [List.length_set]; exact hal
      have hK2 := hKid.set hal2 hnd
      rw [ofKids_id (by omega)] at hK2
      go_wp2_with ((with_reducible show wpList _ _ _ (⟨none, Op.store 85 _ _, _, _, _, _⟩ :: _) _ _); refine wpList_store_mid rfl 85 (.tmp 90) (.tmp 89) rfl g (2) #[.int .i64 0, .slice (some ⟨bq, oq + 2, none⟩) 2 (cq - 1)] rfl rfl (hKid.there hal2) sizeNd (by simp [Value.oneCell']) ?_)
      go_ret
      have hB9 := below_setCells hgw [.int .i64 0, .slice (some ⟨bq, oq + 2, none⟩) 2 (cq - 1)] 2 w3 hB3
      have hfin := hK2.sl (hcl.below hB9) hcl.lt
      rw [show ((KL.set 0 (ofKids [y0, q1])).set 1 (ofKids (q.kids.drop 1))).length = n by simp only [List.length_set]; exact hKl] at hfin
      rw [show (KL.set 0 (ofKids [y0, q1])).set 1 (ofKids (q.kids.drop 1)) = mendN p y s by rw [Hp0.out, Hs1.out, mend_zero3 (by rw [← Hnq.out]; exact h3), hy0, Hq2.out, HKy.out]; rfl] at hfin
      exact ⟨hB9, _, _, _, rfl, hfin⟩
    · have hn2 : nq = 2 := by have := Hql.out; have := Hnq.out; omega
      have hqk0 : 0 < q.kids.length := by have := Hnq.out; omega
      have hqk1 : 1 < q.kids.length := by have := Hnq.out; omega
      obtain ⟨u1, hu1, r1, _, hlt1⟩ := hSq.at0 hcg (i := 0) hqk0
      obtain ⟨u2, hu2, r2, _, hlt2⟩ := hSq.at0 hcg (i := 1) hqk1
      obtain ⟨u0, hu0, r0, _, hlt0⟩ := hSl.at0 hcg (i := 0) (by simp)
      have Hq2 := Lib.hid (two_list (l := q.kids) (by have := Hnq.out; omega) hqk0 hqk1)
      have z5 : (1 : Int) < (nq : Int) := by omega
      have z6 : (0 : Int) < (nq : Int) := by omega
      have z7 : ¬ nq = 0 := by omega
      clear hn2
      generalize q.kids[0] = q1 at *
      generalize q.kids[1] = q2 at *
      rw [show ([y0] : List Nd)[0] = y0 from rfl] at hu0 r0
      go_upto_region 16 with fail
      try simp only [Act.put]
      have hun := Try.underlying85
      have hS0 : (Try.prog.info? 85).map (·.size) = some 2 := sizeNd
      have hkeep : ∀ wx : World, Below w1.heap.size w1 wx → wx.rangeAt bq (oq) [iv q1.id, u1] ∧ wx.rangeAt bq (oq + 2) [iv q2.id, u2] ∧ wx.rangeAt bl (ol) [iv y0.id, u0] := fun wx hb => ⟨rk hb r1 hlt1, rk hb r2 hlt2, rk hb r0 hlt0⟩
      refine beginT (fun wx => wx.rangeAt bq (oq) [iv q1.id, u1] ∧ wx.rangeAt bq (oq + 2) [iv q2.id, u2] ∧ wx.rangeAt bl (ol) [iv y0.id, u0]) 13 (by kernel_rfl) ?_
      have hS := hkeep _ (c_drew (c_refl _))
      refine takeD 0 (some 92) (.slice (some ⟨g, 0, none⟩) n c8) rfl rfl (by kernel_rfl) (by kernel_rfl) (by kernel_rfl) (by kernel_rfl) (fun _ _ _ h => h) (Or.inl ⟨by kernel_rfl, fun wx hSw => by go_simp⟩) hS ?_
      simp only [Act.put, List.setIfInBounds_toArray, List.set_cons_zero, List.set_cons_succ]
      refine takeD 1 (some 93) (.slice (some ⟨bl, ol, none⟩) 1 cl) rfl rfl (by kernel_rfl) (by kernel_rfl) (by kernel_rfl) (by kernel_rfl) (fun _ _ _ h => h) (Or.inl ⟨by kernel_rfl, fun wx hSw => by go_simp⟩) hS ?_
      simp only [Act.put, List.setIfInBounds_toArray, List.set_cons_zero, List.set_cons_succ]
      refine takeD 2 (some 94) (.pointer (some ⟨bl, ol, none⟩)) rfl rfl (by kernel_rfl) (by kernel_rfl) (by kernel_rfl) (by kernel_rfl) (fun _ _ _ h => h) (Or.inl ⟨by kernel_rfl, fun wx hSw => by go_simp⟩) hS ?_
      simp only [Act.put, List.setIfInBounds_toArray, List.set_cons_zero, List.set_cons_succ]
      refine loadT 3 (some 95) 85 (.tmp 94) bl (ol) [iv y0.id, u0] rfl rfl (by kernel_rfl) (by kernel_rfl) (by kernel_rfl) (by kernel_rfl) rfl (by kernel_rfl) rfl (fun wx hSw => hSw.2.2) hun rfl hS0 (fun _ _ _ h => h) hS ?_
      simp only [Act.put, List.setIfInBounds_toArray, List.set_cons_zero, List.set_cons_succ]
      refine takeD 4 (some 96) (.slice (some ⟨bq, oq, none⟩) nq cq) rfl rfl (by kernel_rfl) (by kernel_rfl) (by kernel_rfl) (by kernel_rfl) (fun _ _ _ h => h) (Or.inl ⟨by kernel_rfl, fun wx hSw => by go_simp⟩) hS ?_
      simp only [Act.put, List.setIfInBounds_toArray, List.set_cons_zero, List.set_cons_succ]
      refine takeD 5 (some 97) (.pointer (some ⟨bq, oq, none⟩)) rfl rfl (by kernel_rfl) (by kernel_rfl) (by kernel_rfl) (by kernel_rfl) (fun _ _ _ h => h) (Or.inl ⟨by kernel_rfl, fun wx hSw => by go_simp⟩) hS ?_
      simp only [Act.put, List.setIfInBounds_toArray, List.set_cons_zero, List.set_cons_succ]
      refine loadT 6 (some 98) 85 (.tmp 97) bq (oq) [iv q1.id, u1] rfl rfl (by kernel_rfl) (by kernel_rfl) (by kernel_rfl) (by kernel_rfl) rfl (by kernel_rfl) rfl (fun wx hSw => hSw.1) hun rfl hS0 (fun _ _ _ h => h) hS ?_
      simp only [Act.put, List.setIfInBounds_toArray, List.set_cons_zero, List.set_cons_succ]
      refine takeD 7 (some 99) (.slice (some ⟨bq, oq, none⟩) nq cq) rfl rfl (by kernel_rfl) (by kernel_rfl) (by kernel_rfl) (by kernel_rfl) (fun _ _ _ h => h) (Or.inl ⟨by kernel_rfl, fun wx hSw => by go_simp⟩) hS ?_
      simp only [Act.put, List.setIfInBounds_toArray, List.set_cons_zero, List.set_cons_succ]
      refine takeD 8 (some 100) (.pointer (some ⟨bq, oq + 2, none⟩)) rfl rfl (by kernel_rfl) (by kernel_rfl) (by kernel_rfl) (by kernel_rfl) (fun _ _ _ h => h) (Or.inl ⟨by kernel_rfl, fun wx hSw => by go_simp⟩) hS ?_
      simp only [Act.put, List.setIfInBounds_toArray, List.set_cons_zero, List.set_cons_succ]
      refine loadT 9 (some 101) 85 (.tmp 100) bq (oq + 2) [iv q2.id, u2] rfl rfl (by kernel_rfl) (by kernel_rfl) (by kernel_rfl) (by kernel_rfl) rfl (by kernel_rfl) rfl (fun wx hSw => hSw.2.1) hun rfl hS0 (fun _ _ _ h => h) hS ?_
      simp only [Act.put, List.setIfInBounds_toArray, List.set_cons_zero, List.set_cons_succ]
      have hx0 : Below w1.heap.size w1 w1.drew := c_drew (c_refl _)
      have hK0 := hKid.below hc1 hx0
      have hB0 := hB.drew
      have hF : NdL (vw (g :: gs) w1.drew) w1.drew.heap.size [y0, q1, q2] [u0, u1, u2] := NdL.keep (vw_keep (w := w1) (w' := w1.drew) hcg (fun k hk => hcg k hk) (fun _ _ _ hr => hr.drew)) _ _ (show NdL (vw (g :: gs) w1) w1.heap.size [y0, q1, q2] [u0, u1, u2] from ⟨hu0, hu1, hu2, trivial⟩)
      generalize w1.drew = x0 at *
      have hcx := hcl.below hB0
      have hcgx := hK0.hcl hcx
      have hnew := SlN.newN hcgx [y0, q1, q2] [u0, u1, u2] #[iv y0.id, u0, iv q1.id, u1, iv q2.id, u2] hF rfl (by simp)
      refine oneT 10 (by kernel_rfl) rfl (fun K hK => ?_)
      go_simp
      refine hK.out _ _ (fun _ => hkeep _ (c_alloc hx0 _)) ?_
      clear hK K
      have hal1 := d_al x0 (.cells #[iv y0.id, u0, iv q1.id, u1, iv q2.id, u2] 85)
      have hK1 := hK0.below hcx hal1
      have hB1 := hB0.alloc hB0.size (.cells #[iv y0.id, u0, iv q1.id, u1, iv q2.id, u2] 85)
      have hx1 := c_call hx0 hal1
      generalize x0.heap.size = gn at *
      generalize x0.alloc (.cells #[iv y0.id, u0, iv q1.id, u1, iv q2.id, u2] 85) = x1 at *
      have hS1 := hkeep x1 hx1
      refine takeD 11 (some 103) (.agg #[.int .i64 0, .slice (some ⟨gn, 0, none⟩) 3 3]) rfl rfl (by kernel_rfl) (by kernel_rfl) (by kernel_rfl) (by kernel_rfl) (fun _ _ _ h => h) (Or.inl ⟨by kernel_rfl, fun wx hSw => by go_simp⟩) hS1 ?_
      simp only [Act.put, List.setIfInBounds_toArray, List.set_cons_zero, List.set_cons_succ]
      refine oneT 12 (by kernel_rfl) rfl (fun K hK => ?_)
      go_simp
      refine hK.out _ _ (fun _ => hS1) ?_
      clear hK K
      have hnd := hnew.node (by simp)
      have hK2 := hK1.set (i := 1) (by first | omega | (simp only [List.length_set]; omega)) hnd
      rw [ofKids_id (by simp)] at hK2
      refine oneT 13 (by kernel_rfl) rfl (fun K hK => ?_)
      refine step_store_midT rfl rfl 85 (.tmp 104) (.tmp 103) rfl g (2) #[.int .i64 0, .slice (some ⟨gn, 0, none⟩) 3 3] rfl rfl (hK1.there (i := 1) (by first | omega | (simp only [List.length_set]; omega))) sizeNd (by simp [Value.oneCell']) ?_
      refine hK.out _ _ (fun h => absurd rfl h) ?_
      clear hK K
      refine doneT (by kernel_rfl) ?_ _
      have hB9 := below_setCells hgw [.int .i64 0, .slice (some ⟨gn, 0, none⟩) 3 3] 2 x1 hB1
      have hfin0 := hK2.sl (hcl.below hB9) hcl.lt
      rw [show (KL.set 1 (ofKids [y0, q1, q2])).length = n by simp only [List.length_set]; exact hKl] at hfin0
      have hfin := hfin0.cut (k := 1) (by omega)
      have g5 : ¬ c8 = 1 := by omega
      have g6 : (1 : Int) ≤ (n : Int) := by omega
      have g7 : (1 : Int) ≤ (c8 : Int) := by omega
      rw [if_neg g5] at hfin
      rw [show (KL.set 1 (ofKids [y0, q1, q2])).drop 1 = mendN p y s by rw [Hp0.out, Hs1.out, mend_zero2 (by rw [← Hnq.out]; exact h3), hy0, Hq2.out, HKy.out]; rfl] at hfin
      go_wp2_with fail
      go_ret
      exact ⟨hB9, _, _, _, rfl, hfin⟩

end Go.Proofs.Ytmganbdbihjbmaa

/-
  CONTRACT of the document's without (coterieref10).
-/
set_option linter.unusedVariables false
namespace Go.Proofs.Ytmganbdbihjbmaa
open Go.RowKit

theorem mendN_len {p : List Nd} {y : Nd} {s : List Nd} (h : 0 < p.length + s.length) : (mendN p y s).length = p.length + s.length ∨ (mendN p y s).length = p.length + s.length + 1 := by
  unfold mendN
  rcases hp : p.reverse with _ | ⟨o, p'⟩
  · have hp0 : p = [] := by simpa using hp
    subst hp0
    match s, h with
    | o :: s', _ =>
      simp only []
      split <;> simp
  · have hpl : p.length = p'.length + 1 := by rw [← List.length_reverse, hp]; rfl
    simp only []
    split <;> simp <;> omega
/-- what taking a member out of a node answers -/
def WithoutC (h : Nat) : Prop := ∀ (x : Nd) (v : Value) (id : Int) (gs : List Nat) (w : World), Nd.hi (h + 1) x → Cells gs w → NdV (vw gs w) w.heap.size x v →
  Calls Try.prog 53 #[.agg #[iv x.id, v], .int .i64 id] w fun e w' => Below w.heap.size w w' ∧ ∃ u, e = .returned (.agg #[.int .i64 0, u]) ∧ NdV (vw gs w') w'.heap.size (withoutN x id) u ∧ (withoutN x id).id = 0 ∧
    ((withoutN x id).kids.length = 1 ∨ (withoutN x id).kids.length = 2 ∨ (withoutN x id).kids.length = 3)
theorem nil_ofKids {L : List Nd} (h : L.length = 1 ∨ L.length = 2 ∨ L.length = 3) : (ofKids L).id = 0 ∧ ((ofKids L).kids.length = 1 ∨ (ofKids L).kids.length = 2 ∨ (ofKids L).kids.length = 3) := ⟨ofKids_id h, by rw [ofKids_kids h]; exact h⟩

theorem one_nd {v : Value} (h : v.oneCell' = true) : (#[Value.int .i64 0, v] : Array Value).all (·.oneCell') = true := by simp [h, show (Value.int IntKind.i64 0).oneCell' = true from rfl]
theorem hid1_setRow (w : World) (g : Nat) (cs : Array Value) : hid1 (w.setRow g cs) g = hid1 w g := by
  unfold hid1 World.setRow
  congr 1
  apply Array.ext_getElem?
  intro k
  simp only [Array.getElem?_modify]
  by_cases h : g = k
  · simp only [h, if_true]
    cases w.heap[k]? with
    | none => rfl
    | some o => cases o <;> rfl
  · simp [h]
theorem NdV.unbox {gs : List Nat} {w : World} {g B : Nat} {cs : Array Value} (hc : Cells (g :: gs) (w.setRow g cs)) {x : Nd} {v : Value} (h : NdV (vw (g :: gs) w) B x v) : NdV (vw gs (w.setRow g cs)) B x v := by
  have e : vw (g :: gs) (w.setRow g cs) = vw (g :: gs) w := by rw [vw, vw, hid1_setRow]
  rw [← e] at h
  exact NdV.keep (vw_less (l := [g]) hc) x v h
theorem Cells.setRow {gs : List Nat} {w : World} (h : Cells gs w) (g : Nat) (cs : Array Value) : Cells gs (w.setRow g cs) := by
  intro k hk
  obtain ⟨t, cs', hr⟩ := h k hk
  by_cases e : k = g
  · subst e
    exact ⟨t, cs, hr.row cs⟩
  · exact ⟨t, cs', hr.rowFar e cs⟩
/-- nodes of two parts that lie in an own row lie there -/
theorem SlN.two_own {gs : List Nat} {w : World} {base B C : Nat} {A : Option Addr} {n c : Nat} {F G : List Nd} {vs us : List Value} (ho : w.ownsRow base 85 2 (.slice A n c) n (flatV (F ++ G) (vs ++ us))) (hgs : ∀ k ∈ gs, k < base) (hF : NdL (vw gs w) B F vs) (hG : NdL (vw gs w) C G us) (hB : B ≤ w.heap.size) (hC : C ≤ w.heap.size) : SlN (vw gs w) w.heap.size A n c (F ++ G) := by
  have h := SlN.of_own (own_vw ho hgs) (by rw [vw_size]; exact (hF.more hB).app (hG.more hC))
  rw [vw_size] at h
  exact h

set_option maxRecDepth 100000 in
set_option maxHeartbeats 16000000 in
theorem without_step (h : Nat) (hh : h + 1 ≤ 100) (ih : ∀ k, h = k + 1 → WithoutC k) : WithoutC h := by
  intro x v id gs w hx hcl hv
  have hM := ((Ms.nil w).box 85 #[iv x.id, v]).box 85 #[.int .i64 0, .slice none 0 0]
  simp only [World.size_alloc] at hM
  obtain ⟨p, y, s, hk, hw, hp, hs⟩ := without_kids hx id
  obtain ⟨hx1, hx2, _, _⟩ := hi_succ hx
  obtain ⟨A, c, rfl, hsk⟩ := hv.kids
  obtain ⟨n, hn⟩ : ∃ n, n = x.kids.length := ⟨_, rfl⟩
  rw [← hn] at hsk hx1 hM ⊢
  have hnl : n = p.length + 1 + s.length := by rw [hn, hk]; simp; omega
  have hsk1 := hsk.keep (vw_keep (w' := (w.alloc (.cells #[iv x.id, .slice A n c] 85)).alloc (.cells #[.int .i64 0, .slice none 0 0] 85)) hcl (hcl.below hM.old) (fun _ _ _ hr => hr.below hM.old))
  obtain ⟨_, hnc, hcm, _⟩ := @_root_.id _ hsk
  rw [maxLen] at hcm
  have Hw := Lib.hid hw
  have Hnl := Lib.hid hnl
  have Hn := Lib.hid hn
  have Hk := Lib.hid hk
  clear hw hv
  have hn2 : (0 : Int) < (n : Int) := by omega
  have Hn4 := Lib.hid (show n = 2 ∨ n = 3 from hx1)
  have hn5 : n ≤ 3 := by omega
  have Hp := Lib.hid hp
  have Hs := Lib.hid hs
  have Hx2 := Lib.hid hx2
  have Hx := Lib.hid hx
  have k1 := (hM.get 1 rfl).cell (i := 1) (v := .slice A n c) rfl
  obtain ⟨xi, hxi⟩ : ∃ xi, xi = iv x.id := ⟨_, rfl⟩
  rw [← hxi] at hM hsk1 k1 ⊢
  clear hn hnl hk hx1 hp hs hx2 hx hxi
  go_enter Try.func53, Try.ntmps53
  go_wp2_with fail
  go_loopw [5, 13] (fun v5 v13 wz => ∃ (j a : Nat), j ≤ n ∧ v13 = .int .i64 (j : Int) ∧ v5 = .int .i64 (a : Int) ∧ a ≤ j - 1 ∧ (p.length < j → a = p.length) ∧ SlN (vw gs wz) w.heap.size A n c x.kids ∧
    Ms w wz [(w.heap.size + 1, 85, #[.int .i64 0, .slice none 0 0]), (w.heap.size, 85, #[xi, .slice A n c])]) (fun _ v13 _ => n - (intOf v13).toNat)
  case atStart => exact ⟨0, 0, by omega, rfl, rfl, by omega, by omega, hsk1, hM⟩
  case round =>
    clear hM hsk1
    obtain ⟨j, a, hj, rfl, rfl, haj, hap, hSv, hM⟩ := hrel
    have hb := hM.old
    have hcr := hcl.below hb
    have hS := hSv.keep (vw_un hcr)
    have hlt0 := (hM.get 0 rfl).lt
    by_cases hjn : j < n
    · have hjk : j < x.kids.length := by have := Hn.out; omega
      obtain ⟨b, o, u, rfl, hbb, hu, c1, c2⟩ := hS.range hjk
      have hzi := Hx2.out _ (List.getElem_mem hjk)
      have hone := hu.one2
      have hcmp : (p.length < j → ¬ (x.kids[j]).first ≤ id) ∧ (j = p.length → 0 < j → (x.kids[j]).first ≤ id) := by
        have hj2 : j < (p ++ y :: s).length := by rw [← Hk.out]; exact hjk
        have e : x.kids[j] = (p ++ y :: s)[j] := by simp only [Hk.out]
        rw [e]
        constructor
        · intro hpj
          rw [List.getElem_append_right (by omega)]
          obtain ⟨d, hd⟩ : ∃ d, j - p.length = d + 1 := ⟨j - p.length - 1, by omega⟩
          simp only [hd, List.getElem_cons_succ]
          have hds : d < s.length := by
            rw [List.length_append, List.length_cons] at hj2
            omega
          have := Hs.out s[d] (List.getElem_mem hds)
          omega
        · intro hpj h0
          subst hpj
          rw [List.getElem_append_right (Nat.le_refl _)]
          simp only [Nat.sub_self, List.getElem_cons_zero]
          exact Hp.out (fun e => by rw [e] at h0; simp at h0)
      have hul : NdV (wr.alloc (.cells (ndC x.kids[j] u) 85)) (wr.alloc (.cells (ndC x.kids[j] u) 85)).heap.size x.kids[j] u := (hu.alloc (by omega) _).more (by simp; omega)
      generalize x.kids[j] = q at *
      have hM1 := hM.allocT (.cells (ndC q u) 85)
      have hS1 := hSv.keep (vw_keep hcr (hcl.below hM1.old) (fun _ _ _ hr => hr.alloc (by omega) (.cells (ndC q u) 85)))
      have hfc := first_any h q u (wr.alloc (.cells (ndC q u) 85)) (by omega) hzi hul
      have hrow := RowC.new wr 85 (ndC q u)
      have hlow : ((w.heap.size : Nat)) ≤ (wr.alloc (.cells (ndC q u) 85)).heap.size := by simp; omega
      clear hu hul hzi hS
      go_wp2_with (first
        | ((with_reducible show wpList _ _ _ (⟨some 17, _, _, _, _, _⟩ :: _) _ _); refine wpList_load_midG (by kernel_rfl) 85 (.tmp 16) rfl b (o + j * 2) rfl [iv q.id, u] _ c1 Try.underlying85 rfl sizeNd ?_)
        | ((with_reducible show wpList _ _ _ (⟨none, Op.store 85 _ _, _, _, _, _⟩ :: _) _ _); refine wpList_store_row rfl 85 (.tmp 7) (.tmp 17) rfl wr.heap.size (ndC q u) rfl rfl 85 _ (RowC.new _ _ _) sizeNd rfl hone ?_; rw [World.setRow_alloc_new])
        | ((with_reducible show wpList _ _ _ (⟨some 18, _, _, _, _, _⟩ :: _) _ _); refine wpList_loadC (by kernel_rfl) 85 (.tmp 7) rfl wr.heap.size rfl 85 (ndC q u) _ hrow Try.underlying85 rfl sizeNd ?_))
      refine hfc.mono ?_
      rintro e w2 ⟨rfl, hb2⟩
      have hM2 := hM1.call hb2
      have hS2 := hS1.keep (vw_keep (hcl.below hM1.old) (hcl.below hM2.old) (fun _ _ _ hr => hr.below (hb2.mono hlow)))
      clear hfc hrow hM1 hS1 hM c1 c2 hSv
      by_cases hlt : q.first ≤ id
      · go_wp2_with fail
        go_roundw
        case rel => exact ⟨j + 1, j, by omega, by go_num, rfl, by omega, fun h1 => by
          rcases Nat.lt_or_ge p.length j with h2 | h2
          · have := hcmp.1 h2; omega
          · omega, hS2, hM2⟩
        case measure => simp [intOf]; omega
      · have hlt' : ¬ (q.first : Int) ≤ id := hlt
        go_wp2_with fail
        go_roundw
        case rel => exact ⟨j + 1, a, by omega, by go_num, rfl, by omega, fun h1 => by
          rcases Nat.lt_or_ge p.length j with h2 | h2
          · exact hap h2
          · have h3 : j = p.length := by omega
            rcases Nat.eq_zero_or_pos j with h0 | h0
            · omega
            · have := hcmp.2 h3 h0; omega, hS2, hM2⟩
        case measure => simp [intOf]; omega
    · obtain rfl : j = n := by omega
      have ha := hap (by have := Hnl.out; omega)
      subst ha
      have hpl : p.length < j := by have := Hnl.out; omega
      have hjk : p.length < x.kids.length := by have := Hn.out; omega
      have hkp : x.kids[p.length] = y := by simp only [Hk.out]; simp
      have k1 := (hM.get 1 rfl).cell (i := 1) (v := .slice A j c) rfl
      obtain ⟨b, o, u, rfl, hbb, hu, c1, c2⟩ := SlN.rangeV hcr hSv hjk
      rw [hkp] at hu c1
      obtain ⟨Ay, cy, rfl, hSy⟩ := hu.kids
      have hyi := Hx2.out y (by rw [Hk.out]; simp)
      have hy0 := hi_kids0 hyi
      have z1 : (p.length : Int) < (j : Int) := by omega
      have Hkl := Lib.hid (show x.kids.length = j from Hn.out.symm)
      have Hkp := Lib.hid hkp
      obtain ⟨m, hm⟩ : ∃ m, m = p.length := ⟨_, rfl⟩
      have Hm := Lib.hid hm
      rw [← hm] at hpl hjk z1 c2 ⊢
      clear hap haj hm hkp c1
      obtain ⟨ny, hny⟩ : ∃ ny, ny = y.kids.length := ⟨_, rfl⟩
      rw [← hny] at c2 hy0 hSy
      have Hny := Lib.hid hny
      clear hny
      by_cases h0 : ny = 0
      · have Htake := Lib.hid (show x.kids.take m = p by rw [Hk.out, Hm.out]; simp)
        have Hdrop := Lib.hid (show x.kids.drop (m + 1) = s by rw [Hk.out, Hm.out]; simp)
        obtain ⟨gs2, hgs2⟩ : ∃ gs2, gs2 = (w.heap.size + 1) :: gs := ⟨_, rfl⟩
        have hc2 : Cells gs2 wr := by
          rw [hgs2]
          intro k hk
          rcases List.mem_cons.1 hk with rfl | hk
          · exact ⟨_, _, hM.get 0 rfl⟩
          · exact hcr k hk
        have hSw := hSv.keep (vw_more (l := [w.heap.size + 1]) (gs := gs) (by rw [hgs2] at hc2; exact hc2) (B := w.heap.size) (B' := w.heap.size) (fun k hk => by simp at hk; omega) (Nat.le_refl _))
        rw [show [w.heap.size + 1] ++ gs = gs2 from hgs2.symm] at hSw
        have Hgs := Lib.hid hgs2
        clear hgs2 hSv
        by_cases hcc : c = m + 1
        · have hj0 : j - (m + 1) = 0 := by omega
          have hc0 : c - (m + 1) = 0 := by omega
          have hSp := hSw.take (k := m) (c' := c) (by omega) (by omega) (Nat.le_refl _)
          rw [Htake.out] at hSp
          obtain ⟨_, _, _, us1, hN1, hR1⟩ := hSp
          have hN1u := hN1.keep (vw_un hc2)
          have hR1u := vw_un hc2 _ _ _ hR1
          have q1 : (m : Int) ≤ (c : Int) := by omega
          have q0 : (0 : Int) ≤ (m : Int) := by omega
          have y0w : IntKind.i64.wrap ((m : Int) + 1) = (m : Int) + 1 := by rw [IntKind.wrap_i64]; omega
          have y1 : ((m : Int) + 1).toNat = m + 1 := by omega
          have y2 : (0 : Int) ≤ (m : Int) + 1 := by omega
          have y3 : (m : Int) + 1 ≤ (j : Int) := by omega
          have y4 : (j : Int) ≤ (c : Int) := by omega
          go_wp2_with (first
            | (at_builtin; refine wpList_append_nd (by kernel_rfl) (.const (.slice none 0 0)) (.tmp 35) rfl wr.heap.size none 0 0 [] [] rfl (World.ownsRow_nil _ _ _ _) w.heap.size (some ⟨b, o, none⟩) m (m + 1) p us1 rfl hN1u hR1u (by omega) (Nat.le_refl _) rfl ?_; intro A8 c8 w8 hown8 hgr8 _; rw [Nat.zero_add, List.nil_append, List.nil_append] at hown8; have hB8 : Below wr.heap.size wr w8 := (Below.refl _ _).grown hgr8 (Nat.le_refl _) (fun k hk => by simp [Value.ownBlock] at hk); have hM8 := hM.call hB8; have hc8 := hc2.below hB8; have hkp8 := vw_grown hc2 hc8 hgr8 (B := w.heap.size) (fun k hk => by simp [Value.ownBlock] at hk) (by omega); have hN8 := hN1.keep hkp8; have hS8 := hSw.keep hkp8; have k8 := (hM8.get 1 rfl).cell (i := 1) (v := .slice (some ⟨b, o, none⟩) j c) rfl; have hcut := hS8.cut (k := m + 1) (by omega); rw [if_pos hcc, hj0, hc0, Hdrop.out] at hcut; obtain ⟨_, _, _, us3, hN3, hR3⟩ := hcut; have hN3u := hN3.keep (vw_un hc8); have hR3u := vw_un hc8 _ _ _ hR3)
            | (at_builtin; refine wpList_append_nd (by kernel_rfl) (.tmp 37) (.tmp 42) rfl wr.heap.size A8 m c8 p us1 rfl hown8 w.heap.size (some ⟨b, o, none⟩) 0 0 s us3 rfl hN3u hR3u (by omega) hB8.size hN8.len ?_; intro A10 c10 w10 hown10 hgr10 _; have hs10 := hgr10.size; have hB10 := hB8.grown hgr10 hB8.size (own_blockT hown8); have hM10 := hM.call hB10; have hc10 := hc2.below hB10; have hs8 := hB8.size; have hkp10 := vw_grown hc8 hc10 hgr10 (B := w.heap.size) (fun k hk => .inr (by have := own_blockT hown8 k hk; omega)) (by omega); have hNa := hN8.keep hkp10; have hNb := hN3.keep hkp10; have hr10 := hM10.get 0 rfl; rw [Nat.add_zero] at hown10)
            | ((with_reducible show wpList _ _ _ (⟨none, Op.store 85 _ _, _, _, _, _⟩ :: _) _ _); refine wpList_store_row rfl 85 (.tmp 4) (.tmp 44) rfl (w.heap.size + 1) #[.int .i64 0, .slice A10 m c10] rfl rfl 85 _ hr10 sizeNd rfl (by simp [Value.oneCell']) ?_))
          have hS10 := SlN.two_own hown10 hc2.lt hNa hNb (by omega) (by omega)
          have hlen : (p ++ s).length = 1 ∨ (p ++ s).length = 2 ∨ (p ++ s).length = 3 := by have := Hnl.out; have := Hn4.out; rw [List.length_append]; omega
          have hnd := hS10.node (by have := hS10.1; omega)
          have hres := NdV.unbox (gs := gs) (g := w.heap.size + 1) (cs := #[.int .i64 0, .slice A10 m c10]) (by have h := hc10.setRow (w.heap.size + 1) #[.int .i64 0, .slice A10 m c10]; rw [Hgs.out] at h; exact h) (by have h := hnd; rw [Hgs.out] at h; exact h)
          exact bodyPost_ret (results_cell_one rfl _ _ (w.heap.size + 1) 85 #[.int .i64 0, .slice A10 m c10] _ rfl ((hM10.get 0 rfl).row _) Try.underlying85 rfl sizeNd) rfl ⟨below_setRow hM10.old (by omega) _, _, rfl, by rw [Hw.out, outN, if_pos (by rw [← Hny.out]; exact h0)]; simpa [World.setRow] using hres, by rw [Hw.out, outN, if_pos (by rw [← Hny.out]; exact h0)]; exact (nil_ofKids hlen).1, by rw [Hw.out, outN, if_pos (by rw [← Hny.out]; exact h0)]; exact (nil_ofKids hlen).2⟩
        · have hSp := hSw.take (k := m) (c' := c) (by omega) (by omega) (Nat.le_refl _)
          rw [Htake.out] at hSp
          obtain ⟨_, _, _, us1, hN1, hR1⟩ := hSp
          have hN1u := hN1.keep (vw_un hc2)
          have hR1u := vw_un hc2 _ _ _ hR1
          have q1 : (m : Int) ≤ (c : Int) := by omega
          have q0 : (0 : Int) ≤ (m : Int) := by omega
          have y0w : IntKind.i64.wrap ((m : Int) + 1) = (m : Int) + 1 := by rw [IntKind.wrap_i64]; omega
          have y1 : ((m : Int) + 1).toNat = m + 1 := by omega
          have y2 : (0 : Int) ≤ (m : Int) + 1 := by omega
          have y3 : (m : Int) + 1 ≤ (j : Int) := by omega
          have y4 : (j : Int) ≤ (c : Int) := by omega
          go_wp2_with (first
            | (at_builtin; refine wpList_append_nd (by kernel_rfl) (.const (.slice none 0 0)) (.tmp 35) rfl wr.heap.size none 0 0 [] [] rfl (World.ownsRow_nil _ _ _ _) w.heap.size (some ⟨b, o, none⟩) m c p us1 rfl hN1u hR1u (by omega) (Nat.le_refl _) rfl ?_; intro A8 c8 w8 hown8 hgr8 _; rw [Nat.zero_add, List.nil_append, List.nil_append] at hown8; have hB8 : Below wr.heap.size wr w8 := (Below.refl _ _).grown hgr8 (Nat.le_refl _) (fun k hk => by simp [Value.ownBlock] at hk); have hM8 := hM.call hB8; have hc8 := hc2.below hB8; have hkp8 := vw_grown hc2 hc8 hgr8 (B := w.heap.size) (fun k hk => by simp [Value.ownBlock] at hk) (by omega); have hN8 := hN1.keep hkp8; have hS8 := hSw.keep hkp8; have k8 := (hM8.get 1 rfl).cell (i := 1) (v := .slice (some ⟨b, o, none⟩) j c) rfl; have hcut := hS8.cut (k := m + 1) (by omega); rw [if_neg hcc, Hdrop.out] at hcut; obtain ⟨_, _, _, us3, hN3, hR3⟩ := hcut; have hN3u := hN3.keep (vw_un hc8); have hR3u := vw_un hc8 _ _ _ hR3)
            | (at_builtin; refine wpList_append_nd (by kernel_rfl) (.tmp 37) (.tmp 42) rfl wr.heap.size A8 m c8 p us1 rfl hown8 w.heap.size (some ((⟨b, o, none⟩ : Addr).add ((m + 1) * 2))) (j - (m + 1)) (c - (m + 1)) s us3 rfl hN3u hR3u (by omega) hB8.size hN8.len ?_; intro A10 c10 w10 hown10 hgr10 _; have hs10 := hgr10.size; have hB10 := hB8.grown hgr10 hB8.size (own_blockT hown8); have hM10 := hM.call hB10; have hc10 := hc2.below hB10; have hs8 := hB8.size; have hkp10 := vw_grown hc8 hc10 hgr10 (B := w.heap.size) (fun k hk => .inr (by have := own_blockT hown8 k hk; omega)) (by omega); have hNa := hN8.keep hkp10; have hNb := hN3.keep hkp10; have hr10 := hM10.get 0 rfl)
            | ((with_reducible show wpList _ _ _ (⟨none, Op.store 85 _ _, _, _, _, _⟩ :: _) _ _); refine wpList_store_row rfl 85 (.tmp 4) (.tmp 44) rfl (w.heap.size + 1) #[.int .i64 0, .slice A10 (m + (j - (m + 1))) c10] rfl rfl 85 _ hr10 sizeNd rfl (by simp [Value.oneCell']) ?_))
          have hS10 := SlN.two_own hown10 hc2.lt hNa hNb (by omega) (by omega)
          have hlen : (p ++ s).length = 1 ∨ (p ++ s).length = 2 ∨ (p ++ s).length = 3 := by have := Hnl.out; have := Hn4.out; rw [List.length_append]; omega
          have hnd := hS10.node (by have := hS10.1; omega)
          have hres := NdV.unbox (gs := gs) (g := w.heap.size + 1) (cs := #[.int .i64 0, .slice A10 (m + (j - (m + 1))) c10]) (by have h := hc10.setRow (w.heap.size + 1) #[.int .i64 0, .slice A10 (m + (j - (m + 1))) c10]; rw [Hgs.out] at h; exact h) (by have h := hnd; rw [Hgs.out] at h; exact h)
          exact bodyPost_ret (results_cell_one rfl _ _ (w.heap.size + 1) 85 #[.int .i64 0, .slice A10 (m + (j - (m + 1))) c10] _ rfl ((hM10.get 0 rfl).row _) Try.underlying85 rfl sizeNd) rfl ⟨below_setRow hM10.old (by omega) _, _, rfl, by rw [Hw.out, outN, if_pos (by rw [← Hny.out]; exact h0)]; simpa [World.setRow] using hres, by rw [Hw.out, outN, if_pos (by rw [← Hny.out]; exact h0)]; exact (nil_ofKids hlen).1, by rw [Hw.out, outN, if_pos (by rw [← Hny.out]; exact h0)]; exact (nil_ofKids hlen).2⟩
      · obtain ⟨gs2, hgs2⟩ : ∃ gs2, gs2 = (w.heap.size + 1) :: gs := ⟨_, rfl⟩
        have hc2 : Cells gs2 wr := by
          rw [hgs2]
          intro k hk
          rcases List.mem_cons.1 hk with rfl | hk
          · exact ⟨_, _, hM.get 0 rfl⟩
          · exact hcr k hk
        have hSw := hSv.keep (vw_more (l := [w.heap.size + 1]) (gs := gs) (by rw [hgs2] at hc2; exact hc2) (B := w.heap.size) (B' := w.heap.size) (fun k hk => by simp at hk; omega) (Nat.le_refl _))
        rw [show [w.heap.size + 1] ++ gs = gs2 from hgs2.symm] at hSw
        have Hgs := Lib.hid hgs2
        clear hgs2 hSv
        have hne : ¬ h = 0 := fun e => h0 (hy0.2 e)
        obtain ⟨k, hk⟩ : ∃ k, h = k + 1 := ⟨h - 1, by omega⟩
        have hik := ih k hk
        rw [hk] at hyi
        have Hyi := Lib.hid hyi
        have h0i : ¬ (ny : Int) = 0 := by omega
        have HK := Lib.hid (show ∀ Y : Nd, x.kids.set m Y = p ++ Y :: s from fun Y => by rw [Hk.out, Hm.out]; exact set_mid _ _ _ _)
        have Hkm := Lib.hid (show x.kids[m]? = some y by rw [Hk.out, Hm.out]; exact get_mid _ _ _)
        have Hoth := Lib.hid (show ∀ z ∈ p ++ s, z.kids.length = 2 ∨ z.kids.length = 3 from fun z hz => by
          have hzi := Hx2.out z (by rw [Hk.out]; rcases List.mem_append.1 hz with h | h <;> simp [h])
          rw [hk] at hzi
          exact (hi_succ hzi).1)
        have Hps := Lib.hid (show 0 < p.length + s.length by have := Hnl.out; have := Hn4.out; omega)
        clear hk hne hyi ih hy0 hSy hu
        obtain ⟨_, _, _, us, hN1, hR1⟩ := @_root_.id _ hSw
        have hN1u := hN1.keep (vw_un hc2)
        have hR1u := vw_un hc2 _ _ _ hR1
        go_upto_region 12 with (at_builtin; refine wpList_append_nd (by kernel_rfl) (.const (.slice none 0 0)) (.tmp 46) rfl wr.heap.size none 0 0 [] [] rfl (World.ownsRow_nil _ _ _ _) w.heap.size (some ⟨b, o, none⟩) j c x.kids us rfl hN1u hR1u (by omega) (Nat.le_refl _) rfl ?_; intro A9 c9 w9 hown9 hgr9 _; rw [Nat.zero_add, List.nil_append, List.nil_append] at hown9)
        try simp only [Act.put]
        have hB9 : Below wr.heap.size wr w9 := (Below.refl _ _).grown hgr9 (Nat.le_refl _) (fun k hk => by simp [Value.ownBlock] at hk)
        have hM9 := hM.call hB9
        have hc9 := hc2.below hB9
        have hc9l := hc9.own hown9
        have hkp9 := vw_grown hc2 hc9 hgr9 (B := w.heap.size) (fun k hk => by simp [Value.ownBlock] at hk) (by omega)
        obtain ⟨g, hA9, hgw, hKid⟩ := KidR.of_own hown9 Hkl.out (by omega) (NdL.keep (vw_more hc9l (B := wr.heap.size) (fun k hk => own_blockT hown9 k (by simpa using hk)) hB9.size) x.kids us ((hN1.keep hkp9).more (by omega)))
        subst hA9
        have hgl : w.heap.size + 1 < g := by omega
        refine wp_gen (fun wx => Below wr.heap.size wr wx ∧ KidR gs2 wr.heap.size wx g c9 x.kids ∧ Ms w wx [(w.heap.size + 1, 85, #[.int .i64 0, .slice none 0 0]), (w.heap.size, 85, #[xi, .slice (some ⟨b, o, none⟩) j c])]) ⟨hB9, hKid, hM9⟩ ?_
        clear hKid hkp9 hc9l hc9 hM9 hB9 hgr9 hown9 hR1u hN1u hR1 hN1 hSw hM k1 c2
        rintro w1 ⟨hB1, hKid, hM1⟩
        have hc1 := hc2.below hB1
        have hcg := hKid.hcl hc1
        obtain ⟨v1, hv1, r1, _⟩ := hKid.get (i := m) (by rw [Hkl.out]; omega)
        have hky : x.kids[m] = y := by have h := Hkm.out; rw [List.getElem?_eq_getElem hjk] at h; exact Option.some.inj h
        rw [hky] at hv1 r1
        clear hky
        have hcall := hik y v1 id (g :: gs2) w1 Hyi.out hcg hv1
        have z3 : (j : Int) ≤ (c9 : Int) := by have := hKid.row.1; have := Hkl.out; omega
        have z4 : (0 : Int) ≤ (m : Int) := by omega
        have Hmk := Lib.hid (show m < x.kids.length from hjk)
        clear hjk hv1
        go_wp2_with ((with_reducible show wpList _ _ _ (⟨some 53, _, _, _, _, _⟩ :: _) _ _); refine wpList_load_midG (by kernel_rfl) 85 (.tmp 52) rfl g (m * 2) rfl [iv y.id, v1] _ r1 Try.underlying85 rfl sizeNd ?_)
        refine hcall.mono ?_
        rintro e w2 ⟨hb2, u, rfl, hu2, hid2, hlen2⟩
        have hB2 := c_call hB1 hb2
        have hK2 := hKid.below hc1 hb2
        have hM2 := hM1.call hb2
        obtain ⟨Y, hY⟩ : ∃ Y, Y = withoutN y id := ⟨_, rfl⟩
        rw [← hY] at hu2 hid2 hlen2
        have HY := Lib.hid hY
        clear hY hcall hik hKid hM1 hB1 hc1 hcg r1
        have hthere := hK2.there Hmk.out
        have hK3 := hK2.set Hmk.out hu2
        rw [hid2, HK.out] at hK3
        have hu1 := hu2.cell1
        go_upto_region 13 with ((with_reducible show wpList _ _ _ (⟨none, Op.store 85 _ _, _, _, _, _⟩ :: _) _ _); refine wpList_store_mid rfl 85 (.tmp 56) (.tmp 55) rfl g (m * 2) #[.int .i64 0, u] rfl rfl hthere sizeNd (one_nd hu1) ?_)
        try simp only [Act.put]
        refine wp_gen (fun wx => Below wr.heap.size wr wx ∧ KidR gs2 wr.heap.size wx g c9 (p ++ Y :: s) ∧ Ms w wx [(w.heap.size + 1, 85, #[.int .i64 0, .slice none 0 0]), (w.heap.size, 85, #[xi, .slice (some ⟨b, o, none⟩) j c])]) ⟨below_setCells hgw _ _ _ hB2, hK3, ⟨below_setCells (by omega) _ _ _ hM2.old, fun q hq => RowC.of (hM2.rows q hq) (setCells_far g q.1 (by simp at hq; rcases hq with rfl | rfl <;> simp <;> omega) _ _ _)⟩⟩ ?_
        clear hK3 hthere hM2 hK2 hB2 hb2 hu2 hu1
        rintro w3 ⟨hB3, hKid, hM3⟩
        have hc3 := hc2.below hB3
        have hpl2 : (p ++ Y :: s).length = j := by have := Hnl.out; simp; omega
        obtain ⟨v3, hv3, _, k3⟩ := hKid.get (i := m) (by rw [hpl2]; omega)
        have hYm : (p ++ Y :: s)[m]'(by rw [hpl2]; omega) = Y := by simp only [Hm.out]; simp
        rw [hYm] at hv3
        obtain ⟨Av, cv, rfl, _⟩ := hv3.kids
        clear hv3 hYm
        have hSl := hKid.sl hc3 hc2.lt
        rw [hpl2] at hSl
        obtain ⟨nY, hnY⟩ : ∃ nY, nY = Y.kids.length := ⟨_, rfl⟩
        rw [← hnY] at k3 hlen2
        have HnY := Lib.hid hnY
        have Hlen2 := Lib.hid hlen2
        clear hnY hlen2
        by_cases h1 : nY = 1
        · have hcall := mend_any gs2 p Y s _ j c9 w3 hc3 hSl Hn4.out (by rw [← HnY.out]; exact h1) Hoth.out
          rw [← Hm.out] at hcall
          have hkl3 := hKid.row
          clear hKid
          go_wp2_with fail
          refine hcall.mono ?_
          rintro e w10 ⟨hb10, A10, n10, c10, rfl, hS10⟩
          have hM10 := hM3.call hb10
          have hc10 := hc3.below hb10
          have hr10 := hM10.get 0 rfl
          clear hcall hSl hM3
          have hlen : (mendN p Y s).length = 1 ∨ (mendN p Y s).length = 2 ∨ (mendN p Y s).length = 3 := by have := mendN_len (y := Y) Hps.out; have := Hnl.out; have := Hn4.out; omega
          have hnd := hS10.node (by have := hS10.1; omega)
          go_wp2_with ((with_reducible show wpList _ _ _ (⟨none, Op.store 85 _ _, _, _, _, _⟩ :: _) _ _); refine wpList_store_row rfl 85 (.tmp 4) (.tmp 68) rfl (w.heap.size + 1) #[.int .i64 0, .slice A10 n10 c10] rfl rfl 85 _ hr10 sizeNd rfl (by simp [Value.oneCell']) ?_)
          have hres := NdV.unbox (gs := gs) (g := w.heap.size + 1) (cs := #[.int .i64 0, .slice A10 n10 c10]) (by have h := hc10.setRow (w.heap.size + 1) #[.int .i64 0, .slice A10 n10 c10]; rw [Hgs.out] at h; exact h) (by have h := hnd; rw [Hgs.out] at h; exact h)
          exact bodyPost_ret (results_cell_one rfl _ _ (w.heap.size + 1) 85 #[.int .i64 0, .slice A10 n10 c10] _ rfl ((hM10.get 0 rfl).row _) Try.underlying85 rfl sizeNd) rfl ⟨below_setRow hM10.old (by omega) _, _, rfl, by rw [Hw.out, outN, if_neg (by rw [← Hny.out]; exact h0), ← HY.out, if_pos (by rw [← HnY.out]; exact h1)]; simpa [World.setRow] using hres, by rw [Hw.out, outN, if_neg (by rw [← Hny.out]; exact h0), ← HY.out, if_pos (by rw [← HnY.out]; exact h1)]; exact (nil_ofKids hlen).1, by rw [Hw.out, outN, if_neg (by rw [← Hny.out]; exact h0), ← HY.out, if_pos (by rw [← HnY.out]; exact h1)]; exact (nil_ofKids hlen).2⟩
        · have h1i : ¬ (nY : Int) = 1 := by omega
          have hr10 := hM3.get 0 rfl
          have hlen : (p ++ Y :: s).length = 1 ∨ (p ++ Y :: s).length = 2 ∨ (p ++ Y :: s).length = 3 := by have := Hn4.out; omega
          have hnd := hSl.node (by have := Hn4.out; omega)
          clear hKid
          go_wp2_with ((with_reducible show wpList _ _ _ (⟨none, Op.store 85 _ _, _, _, _, _⟩ :: _) _ _); refine wpList_store_row rfl 85 (.tmp 4) (.tmp 68) rfl (w.heap.size + 1) #[.int .i64 0, .slice (some ⟨g, 0, none⟩) j c9] rfl rfl 85 _ hr10 sizeNd rfl (by simp [Value.oneCell']) ?_)
          have hres := NdV.unbox (gs := gs) (g := w.heap.size + 1) (cs := #[.int .i64 0, .slice (some ⟨g, 0, none⟩) j c9]) (by have h := hc3.setRow (w.heap.size + 1) #[.int .i64 0, .slice (some ⟨g, 0, none⟩) j c9]; rw [Hgs.out] at h; exact h) (by have h := hnd; rw [Hgs.out] at h; exact h)
          exact bodyPost_ret (results_cell_one rfl _ _ (w.heap.size + 1) 85 #[.int .i64 0, .slice (some ⟨g, 0, none⟩) j c9] _ rfl ((hM3.get 0 rfl).row _) Try.underlying85 rfl sizeNd) rfl ⟨below_setRow hM3.old (by omega) _, _, rfl, by rw [Hw.out, outN, if_neg (by rw [← Hny.out]; exact h0), ← HY.out, if_neg (by rw [← HnY.out]; exact h1)]; simpa [World.setRow] using hres, by rw [Hw.out, outN, if_neg (by rw [← Hny.out]; exact h0), ← HY.out, if_neg (by rw [← HnY.out]; exact h1)]; exact (nil_ofKids hlen).1, by rw [Hw.out, outN, if_neg (by rw [← Hny.out]; exact h0), ← HY.out, if_neg (by rw [← HnY.out]; exact h1)]; exact (nil_ofKids hlen).2⟩
theorem without_any : ∀ h, h + 1 ≤ 100 → WithoutC h
  | 0, hh => without_step 0 hh (fun k hk => by omega)
  | h + 1, hh => without_step (h + 1) hh (fun k hk => by
    obtain rfl : h = k := by omega
    exact without_any h (by omega))
theorem with_any : ∀ h, h ≤ 100 → WithC h
  | 0, _ => with_zero
  | h + 1, hh => with_succ h hh (with_any h (by omega))

end Go.Proofs.Ytmganbdbihjbmaa

