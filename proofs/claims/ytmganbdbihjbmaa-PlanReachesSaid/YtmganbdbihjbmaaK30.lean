import Derived.Test.YtmganbdbihjbmaaK27
import Derived.Test.YtmganbdbihjbmaaK25
import Derived.Test.YtmganbdbihjbmaaK28
import Derived.Test.YtmganbdbihjbmaaK21
import Derived.Test.YtmganbdbihjbmaaK29
import Derived.Test.YtmganbdbihjbmaaK22
import Derived.Test.YtmganbdbihjbmaaK23
import Derived.Deep.RegionHeld3
/-
  THE WALK of coterielaw12's changed: a tree of some members, changed by others.
-/
set_option linter.unusedVariables false
namespace Go.Proofs.Ytmganbdbihjbmaa
open Go.RowKit

/-- all inserted that may be -/
def insAll : List Int → List Int × List (List Int) → List Int × List (List Int)
  | [], s => s
  | id :: l, s => insAll l (if insE s.1 s.2 id = 0 then ((insS s.1 (lvN s.2) id).1, levI (insS s.1 (lvN s.2) id).2) else s)
/-- all taken out that may be, and who was; all put in that may be, and who was -/
def outAll : List Int → (List Int × List (List Int)) × List Int → (List Int × List (List Int)) × List Int
  | [], s => s
  | id :: l, s => outAll l (if delE s.1.1 s.1.2 id = 0 then (((delS s.1.1 (lvN s.1.2) id).1, levI (delS s.1.1 (lvN s.1.2) id).2), s.2 ++ [id]) else s)
def inAll : List Int → (List Int × List (List Int)) × List Int → (List Int × List (List Int)) × List Int
  | [], s => s
  | id :: l, s => inAll l (if insE s.1.1 s.1.2 id = 0 then (((insS s.1.1 (lvN s.1.2) id).1, levI (insS s.1.1 (lvN s.1.2) id).2), s.2 ++ [id]) else s)
def oldS (xs : List Int) : List Int × List (List Int) := insAll xs ([], [])
def chgT (xs out inn : List Int) : (List Int × List (List Int)) × List Int := inAll inn (outAll out (oldS xs, []))
theorem insAll_snoc (id : Int) : ∀ (l : List Int) (s : List Int × List (List Int)), insAll (l ++ [id]) s = (if insE (insAll l s).1 (insAll l s).2 id = 0 then ((insS (insAll l s).1 (lvN (insAll l s).2) id).1, levI (insS (insAll l s).1 (lvN (insAll l s).2) id).2) else insAll l s)
  | [], s => rfl
  | x :: l, s => by rw [List.cons_append, insAll, insAll_snoc id l, insAll]
theorem outAll_snoc (id : Int) : ∀ (l : List Int) (s : (List Int × List (List Int)) × List Int), outAll (l ++ [id]) s = (if delE (outAll l s).1.1 (outAll l s).1.2 id = 0 then (((delS (outAll l s).1.1 (lvN (outAll l s).1.2) id).1, levI (delS (outAll l s).1.1 (lvN (outAll l s).1.2) id).2), (outAll l s).2 ++ [id]) else outAll l s)
  | [], s => rfl
  | x :: l, s => by rw [List.cons_append, outAll, outAll_snoc id l, outAll]
theorem inAll_snoc (id : Int) : ∀ (l : List Int) (s : (List Int × List (List Int)) × List Int), inAll (l ++ [id]) s = (if insE (inAll l s).1.1 (inAll l s).1.2 id = 0 then (((insS (inAll l s).1.1 (lvN (inAll l s).1.2) id).1, levI (insS (inAll l s).1.1 (lvN (inAll l s).1.2) id).2), (inAll l s).2 ++ [id]) else inAll l s)
  | [], s => rfl
  | x :: l, s => by rw [List.cons_append, inAll, inAll_snoc id l, inAll]
theorem take_snoc {l : List Int} {j : Nat} {x : Int} (h : l[j]? = some x) : l.take (j + 1) = l.take j ++ [x] := by
  obtain ⟨hj, e⟩ := List.getElem?_eq_some_iff.1 h
  rw [List.take_succ_eq_append_getElem hj, e]
theorem insAll_chk : ∀ (l : List Int) (s : List Int × List (List Int)), chkT s.1 s.2 = true → chkT (insAll l s).1 (insAll l s).2 = true
  | [], s, h => h
  | id :: l, s, h => by
    rw [insAll]
    refine insAll_chk l _ ?_
    split
    · next c => exact (ins_chk c).2.2
    · exact h
theorem outAll_chk : ∀ (l : List Int) (s : (List Int × List (List Int)) × List Int), chkT s.1.1 s.1.2 = true → chkT (outAll l s).1.1 (outAll l s).1.2 = true
  | [], s, h => h
  | id :: l, s, h => by
    rw [outAll]
    refine outAll_chk l _ ?_
    split
    · next c => exact (del_chk c).2.2
    · exact h
theorem inAll_chk : ∀ (l : List Int) (s : (List Int × List (List Int)) × List Int), chkT s.1.1 s.1.2 = true → chkT (inAll l s).1.1 (inAll l s).1.2 = true
  | [], s, h => h
  | id :: l, s, h => by
    rw [inAll]
    refine inAll_chk l _ ?_
    split
    · next c => exact (ins_chk c).2.2
    · exact h
theorem old_chk (xs : List Int) : chkT (oldS xs).1 (oldS xs).2 = true := insAll_chk xs _ rfl
theorem chg_chk (xs out inn : List Int) : chkT (chgT xs out inn).1.1 (chgT xs out inn).1.2 = true := inAll_chk _ _ (outAll_chk _ _ (old_chk xs))
theorem okI_i64 {ids : List Int} {ll : List (List Int)} (h : chkT ids ll = true) {x : Int} (hx : x ∈ ids) : I64 x := by
  have := okI_mem (chkT_lv h).2.1 x hx
  exact ⟨by omega, by omega⟩
/-- who was touched may be a member -/
theorem outAll_i64 : ∀ (l : List Int) (s : (List Int × List (List Int)) × List Int), (∀ x ∈ s.2, I64 x) → ∀ x ∈ (outAll l s).2, I64 x
  | [], s, h => h
  | id :: l, s, h => by
    rw [outAll]
    refine outAll_i64 l _ ?_
    split
    · next c =>
      intro x hx
      rcases List.mem_append.1 hx with hx | hx
      · exact h x hx
      · rw [List.mem_singleton] at hx
        subst hx
        obtain ⟨hc, h3⟩ := delE_zero c
        exact okI_i64 hc h3
    · exact h
theorem inAll_i64 : ∀ (l : List Int) (s : (List Int × List (List Int)) × List Int), (∀ x ∈ s.2, I64 x) → ∀ x ∈ (inAll l s).2, I64 x
  | [], s, h => h
  | id :: l, s, h => by
    rw [inAll]
    refine inAll_i64 l _ ?_
    split
    · next c =>
      intro x hx
      rcases List.mem_append.1 hx with hx | hx
      · exact h x hx
      · rw [List.mem_singleton] at hx
        subst hx
        obtain ⟨_, h1, h2, _⟩ := insE_zero c
        exact ⟨by omega, by omega⟩
    · exact h
theorem chg_i64 (xs out inn : List Int) : ∀ x ∈ (chgT xs out inn).2, I64 x := inAll_i64 _ _ (outAll_i64 _ _ (fun x h => by simp at h))
theorem outAll_len : ∀ (l : List Int) (s : (List Int × List (List Int)) × List Int), (outAll l s).2.length ≤ s.2.length + l.length
  | [], s => Nat.le_refl _
  | id :: l, s => by
    rw [outAll]
    refine Nat.le_trans (outAll_len l _) ?_
    split
    · simp only [List.length_append, List.length_cons, List.length_nil]; omega
    · simp only [List.length_cons]; omega
theorem inAll_len : ∀ (l : List Int) (s : (List Int × List (List Int)) × List Int), (inAll l s).2.length ≤ s.2.length + l.length
  | [], s => Nat.le_refl _
  | id :: l, s => by
    rw [inAll]
    refine Nat.le_trans (inAll_len l _) ?_
    split
    · simp only [List.length_append, List.length_cons, List.length_nil]; omega
    · simp only [List.length_cons]; omega
theorem chg_len (xs out inn : List Int) : (chgT xs out inn).2.length ≤ out.length + inn.length := by
  have h1 := outAll_len out (oldS xs, [])
  have h2 := inAll_len inn (outAll out (oldS xs, []))
  rw [chgT]
  simp only [List.length_nil] at h1
  omega
def ChangedPost (w : World) (xs out inn more : List Int) (e : Ending) (w' : World) : Prop :=
  Below w.heap.size w w' ∧ ∃ Oi oi ocap Ol ol olc Ai ni ci Al nl cl At nt ct lo eo la ea, e = .returned (.tuple #[.agg (shV Oi oi ocap Ol ol olc), .agg (shV Ai ni ci Al nl cl), .slice At nt ct, .bool (decide (0 < ni))]) ∧
    ShN lo w' eo Oi oi ocap Ol ol olc (oldS xs).1 (oldS xs).2 ∧ eo ≤ w'.heap.size ∧ ShN la w' ea Ai ni ci Al nl cl (chgT xs out inn).1.1 (chgT xs out inn).1.2 ∧ ea ≤ w'.heap.size ∧
    w'.ownsRow w.heap.size 3 1 (.slice At nt ct) nt (((chgT xs out inn).2 ++ more).map iv) ∧ ∀ g, (Value.slice At nt ct).ownBlock = some g → (g < lo ∨ eo ≤ g) ∧ (g < la ∨ ea ≤ g)

/-- a tree in blocks from s on, below e, stays where another block is written -/
theorem ShN.grownS {s e : Nat} {w w' : World} {row : Option Nat} {Ai : Option Addr} {ni ci : Nat} {Al : Option Addr} {nl cl : Nat} {ids : List Int} {ll : List (List Int)} (h : ShN s w e Ai ni ci Al nl cl ids ll) (hg : w.grownBy w' row) (he : e ≤ w.heap.size) (hs : ∀ g, row = some g → g < s ∨ e ≤ g) : ShN s w' e Ai ni ci Al nl cl ids ll :=
  h.keep fun A n xs hN hr => by
    cases row with
    | none => exact hr.grown hg he (fun g e => by cases e)
    | some g =>
      rcases hs g rfl with h1 | h1
      · exact hr.grownD hg he (fun ad e' h2 => by injection h2 with h2; have := hN ad e'; omega)
      · exact hr.grown hg he (fun g' e' => by injection e' with e'; omega)
theorem rowc_grown {w w' : World} {g : Nat} {t : TypeId} {cs : Array Value} {row : Option Nat} (h : RowC w g t cs) (hg : w.grownBy w' row) (hne : ∀ q, row = some q → g ≠ q) : RowC w' g t cs := h.of (hg.block g h.lt (fun e => hne g e.symm rfl))
theorem keep_far {w : World} {ga gb : Nat} {a b c d v : Value} {p : Addr} (h : (w.cell? ⟨ga, 0, none⟩ = some a ∧ w.cell? ⟨ga, 1, none⟩ = some b) ∧ (w.cell? ⟨gb, 0, none⟩ = some c ∧ w.cell? ⟨gb, 1, none⟩ = some d)) (h1 : p.block ≠ ga) (h2 : p.block ≠ gb) :
    ((w.setCell p v).cell? ⟨ga, 0, none⟩ = some a ∧ (w.setCell p v).cell? ⟨ga, 1, none⟩ = some b) ∧ ((w.setCell p v).cell? ⟨gb, 0, none⟩ = some c ∧ (w.setCell p v).cell? ⟨gb, 1, none⟩ = some d) := by
  rw [World.cell?_setCell_far _ _ _ _ h1, World.cell?_setCell_far _ _ _ _ h1, World.cell?_setCell_far _ _ _ _ h2, World.cell?_setCell_far _ _ _ _ h2]
  exact h
theorem results_cctt {P : Program} {fn : Func} {p q r u : Tmp} {ty ty' : TypeId} (h : fn.results = #[.cell p ty, .cell q ty', .tmp r, .tmp u]) (tmps : Array Value) (w : World) (g g' : Nat) (t t' : TypeId) (cs cs' : Array Value) (d d' : TypeDesc)
    (hp : tmps.getD p undef = .pointer (some ⟨g, 0, none⟩)) (hg : RowC w g t cs) (hq : tmps.getD q undef = .pointer (some ⟨g', 0, none⟩)) (hg' : RowC w g' t' cs')
    (hu : P.underlying ty = some d) (hd : (match d with | .struct _ | .array _ _ => true | _ => false) = true) (hu' : P.underlying ty' = some d') (hd' : (match d' with | .struct _ | .array _ _ => true | _ => false) = true)
    (hi : (P.info? ty).map (·.size) = some cs.size) (hi' : (P.info? ty').map (·.size) = some cs'.size) :
    (results fn tmps).run P w = .ok (.tuple #[.agg cs, .agg cs', tmps.getD r undef, tmps.getD u undef]) w := by
  have hp' : tmps[p]?.getD undef = .pointer (some ⟨g, 0, none⟩) := by simpa using hp
  have hq' : tmps[q]?.getD undef = .pointer (some ⟨g', 0, none⟩) := by simpa using hq
  simp [results, h, hp', hq', asAddr, run_loadVar_row w g t ty cs (0, 0) d hg hu hd hi, run_loadVar_row w g' t' ty' cs' (0, 0) d' hg' hu' hd' hi']
/-- a tree above two boxes stays where the boxes are filled -/
theorem chg_far (B : Nat) {s e : Nat} {w : World} {Ai : Option Addr} {ni ci : Nat} {Al : Option Addr} {nl cl : Nat} {ids : List Int} {ll : List (List Int)} (hs : B + 3 ≤ s) (he : e ≤ w.heap.size) (h : ShN s w e Ai ni ci Al nl cl ids ll) (a b c d : Value) :
    ShN s ((((w.setCell ⟨B, 0, none⟩ a).setCell ⟨B, 1, none⟩ b).setCell ⟨B + 1, 0, none⟩ c).setCell ⟨B + 1, 1, none⟩ d) e Ai ni ci Al nl cl ids ll := by
  have h1 := h.grownS (grown_setCell w B 0 a) he (fun g hg => by injection hg with hg; exact .inl (by omega))
  have h2 := h1.grownS (grown_setCell _ B 1 b) (by simpa using he) (fun g hg => by injection hg with hg; exact .inl (by omega))
  have h3 := h2.grownS (grown_setCell _ (B + 1) 0 c) (by simpa using he) (fun g hg => by injection hg with hg; exact .inl (by omega))
  exact h3.grownS (grown_setCell _ (B + 1) 1 d) (by simpa using he) (fun g hg => by injection hg with hg; exact .inl (by omega))
theorem chg_del {ids : List Int} {ll : List (List Int)} (h : chkT ids ll = true) (id : Int) : chgR [id] [] ids ll = if delE ids ll id = 0 then (0, (delS ids (lvN ll) id).1, levI (delS ids (lvN ll) id).2) else (delE ids ll id, [], []) := by
  rw [chgR, if_pos h, runD]
  by_cases c : delE ids ll id = 0
  · rw [if_pos c, if_pos c]
    rfl
  · rw [if_neg c, if_neg c, if_neg c]
theorem chg_ins {ids : List Int} {ll : List (List Int)} (h : chkT ids ll = true) (id : Int) : chgR [] [id] ids ll = if insE ids ll id = 0 then (0, (insS ids (lvN ll) id).1, levI (insS ids (lvN ll) id).2) else (insE ids ll id, [], []) := by
  rw [chgR, if_pos h, runD, if_pos rfl, runI]
  by_cases c : insE ids ll id = 0
  · rw [if_pos c, if_pos c]
    rfl
  · rw [if_neg c, if_neg c]
end Go.Proofs.Ytmganbdbihjbmaa

/-
  THE WALK of coterielaw12's changed. Printed by gen_planchg.py.
-/
set_option linter.unusedVariables false
namespace Go.Proofs.Ytmganbdbihjbmaa
open Go.RowKit

set_option maxRecDepth 100000 in
set_option maxHeartbeats 16000000 in
theorem Changed_any (Ax : Option Addr) (nx cx : Nat) (xs : List Int) (Ao : Option Addr) (no co : Nat) (out : List Int) (An : Option Addr) (nn cn : Nat) (inn : List Int) (Am : Option Addr) (nm cm : Nat) (more : List Int) (w : World)
    (hx : Rd w w.heap.size Ax nx (xs.map iv)) (hro : Rd w w.heap.size Ao no (out.map iv)) (hrn : Rd w w.heap.size An nn (inn.map iv)) (hrm : Rd w w.heap.size Am nm (more.map iv)) (hnx : nx ≤ 100) (hno : no ≤ 40) (hnn : nn ≤ 40) (hnm : nm ≤ 40) :
    Calls Try.prog 17 #[.slice Ax nx cx, .slice Ao no co, .slice An nn cn, .slice Am nm cm] w (ChangedPost w xs out inn more) := by
  have hM0 := (((Ms.nil w).box 25 sh0).box 25 sh0).put 25 sh0 sh0
  simp only [World.size_alloc] at hM0
  have Hxl := Lib.hid (show xs.length = nx by have := hx.len; rwa [List.length_map] at this)
  have Hol := Lib.hid (show out.length = no by have := hro.len; rwa [List.length_map] at this)
  have Hil := Lib.hid (show inn.length = nn by have := hrn.len; rwa [List.length_map] at this)
  have Hml := Lib.hid (show more.length = nm by have := hrm.len; rwa [List.length_map] at this)
  have HP := Lib.hid (show ∀ w' Oi oi ocap Ol ol olc Ai ni ci Al nl cl At nt ct b lo eo la ea, Below w.heap.size w w' → ShN lo w' eo Oi oi ocap Ol ol olc (oldS xs).1 (oldS xs).2 → eo ≤ w'.heap.size → ShN la w' ea Ai ni ci Al nl cl (chgT xs out inn).1.1 (chgT xs out inn).1.2 → ea ≤ w'.heap.size →
    w'.ownsRow w.heap.size 3 1 (.slice At nt ct) nt (((chgT xs out inn).2 ++ more).map iv) → (∀ g, (Value.slice At nt ct).ownBlock = some g → (g < lo ∨ eo ≤ g) ∧ (g < la ∨ ea ≤ g)) → b = decide (0 < ni) → ChangedPost w xs out inn more (.returned (.tuple #[.agg (shV Oi oi ocap Ol ol olc), .agg (shV Ai ni ci Al nl cl), .slice At nt ct, .bool b])) w' from fun w' Oi oi ocap Ol ol olc Ai ni ci Al nl cl At nt ct b lo eo la ea h1 h2 h3 h4 h5 h6 h7 h8 => ⟨h1, Oi, oi, ocap, Ol, ol, olc, Ai, ni, ci, Al, nl, cl, At, nt, ct, lo, eo, la, ea, by rw [h8], h2, h3, h4, h5, h6, h7⟩)
  generalize ChangedPost w xs out inn more = PO at *
  obtain ⟨i0, hi0, hz0, hz1, hz2⟩ := info_parts intInfo
  go_enter Try.func17, Try.ntmps17
  go_upto_region 2 with ((with_reducible show wpList _ _ _ (⟨none, Op.store 25 _ _, _, _, _, _⟩ :: _) _ _); refine wpList_store_row rfl 25 (.tmp 12) (.tmp 27) rfl (w.heap.size + 1 + 1) sh0 rfl rfl 25 _ (RowC.mk_ _ _ _ (by simp)) shapeInfo2 rfl (by simp [sh0, Value.oneCell']) ?_)
  try simp only [Act.put]
  refine wp_gen (fun wx => Ms w wx [(w.heap.size + 1 + 1, 25, sh0), (w.heap.size + 1, 25, sh0), (w.heap.size, 25, sh0)]) hM0 ?_
  clear hM0
  rintro w1 hM1
  have HM1 := Lib.hid hM1
  clear hM1
  go_wp2_with fail
  go_loopw [30] (fun v30 wr => ∃ (j : Nat) (Ai : Option Addr) (ni ci : Nat) (Al : Option Addr) (nl cl : Nat), j ≤ nx ∧ v30 = .int .i64 (j : Int) ∧ ShN (w.heap.size + 3) wr wr.heap.size Ai ni ci Al nl cl (oldS (xs.take j)).1 (oldS (xs.take j)).2 ∧
    Ms w wr [(w.heap.size + 1 + 1, 25, shV Ai ni ci Al nl cl), (w.heap.size + 1, 25, sh0), (w.heap.size, 25, sh0)]) (fun v30 _ => nx - (intOf v30).toNat)
  case atStart => exact ⟨0, none, 0, 0, none, 0, 0, by omega, rfl, ShN.nil _ _ _, HM1.out⟩
  case round =>
    clear HM1
    obtain ⟨j, Ai, ni, ci, Al, nl, cl, hj, rfl, hX, hM⟩ := hrel
    have hb := hM.old
    have hlt := (hM.get 0 rfl).lt
    by_cases hjn : j < nx
    · have hjx : j < xs.length := by rw [Hxl.out]; exact hjn
      obtain ⟨b, o, rfl, hbb, c1⟩ := rd_numT (hx.below hb) hjn
      rw [show xs.getD j 0 = xs[j] from getD_at (List.getElem?_eq_getElem hjx)] at c1
      have hck := old_chk (xs.take j)
      have Htk := Lib.hid (show oldS (xs.take (j + 1)) = (if insE (oldS (xs.take j)).1 (oldS (xs.take j)).2 xs[j] = 0 then ((insS (oldS (xs.take j)).1 (lvN (oldS (xs.take j)).2) xs[j]).1, levI (insS (oldS (xs.take j)).1 (lvN (oldS (xs.take j)).2) xs[j]).2) else oldS (xs.take j)) by
        rw [oldS, take_snoc (List.getElem?_eq_getElem hjx), insAll_snoc]
        rfl)
      generalize hS : oldS (xs.take j) = St at *
      have hin := PInsert_any Ai ni ci Al nl cl St.1 St.2 xs[j] wr hX.sh (few_of_chk hck)
      generalize xs[j] = id at *
      have zj : (j : Int) < (nx : Int) := by omega
      clear hS
      go_wp2_with ((with_reducible show wpList _ _ _ (⟨some 35, _, _, _, _, _⟩ :: _) _ _); refine wpList_loadC (by kernel_rfl) 25 (.tmp 12) rfl (w.heap.size + 1 + 1) rfl 25 (shV Ai ni ci Al nl cl) _ (hM.get 0 rfl) Try.underlying25 rfl (sizeSh _ _ _ _ _ _) ?_)
      refine hin.mono ?_
      intro e w2 hPP
      obtain ⟨⟨hb2, ⟨he, hee⟩ | ⟨he, Ai2, ni2, ci2, Al2, nl2, cl2, hee, hsh2⟩⟩, _⟩ := hPP
      · subst hee
        have hP2 := (hM.call hb2).put 25 sh0 sh0
        have hB3 := c_call (c_call (c_refl wr) hb2) (below_setRow ((Below.refl w2.heap.size w2).alloc (Nat.le_refl _) (.cells sh0 25)) (Nat.le_refl _) sh0)
        have hX2 := hX.call hB3
        have Hno := Lib.hid (show oldS (xs.take (j + 1)) = St by rw [Htk.out, if_neg he])
        generalize insE St.1 St.2 id = er at *
        have hne : ¬ er = 0 := he
        have hneb : (er == 0) = false := by simpa using he
        have HM2 := Lib.hid (hP2.subT (L' := [(w.heap.size + 1 + 1, 25, shV Ai ni ci Al nl cl), (w.heap.size + 1, 25, sh0), (w.heap.size, 25, sh0)]) (fun p hp => List.mem_cons_of_mem _ hp))
        have HX2 := Lib.hid hX2
        clear hin hM hX c1 hP2 hB3 hX2 hb2
        go_wp2_with ((with_reducible show wpList _ _ _ (⟨none, Op.store 25 _ _, _, _, _, _⟩ :: _) _ _); refine wpList_store_row rfl 25 (.tmp 15) (.tmp 38) rfl (w2.heap.size) sh0 rfl rfl 25 _ (RowC.new _ _ _) shapeInfo2 rfl (by simp [sh0, Value.oneCell']) ?_)
        go_roundw
        case rel => exact ⟨j + 1, Ai, ni, ci, Al, nl, cl, by omega, by go_num, by rw [Hno.out]; exact HX2.out, HM2.out⟩
        case measure => simp [intOf]; omega
      · subst hee
        have hP2 := (hM.call hb2).put 25 sh0 (shV Ai2 ni2 ci2 Al2 nl2 cl2)
        have hB3 := below_setRow ((Below.refl w2.heap.size w2).alloc (Nat.le_refl _) (.cells sh0 25)) (Nat.le_refl _) (shV Ai2 ni2 ci2 Al2 nl2 cl2)
        have hsh3 := hsh2.call hB3
        have Hyes := Lib.hid (show oldS (xs.take (j + 1)) = ((insS St.1 (lvN St.2) id).1, levI (insS St.1 (lvN St.2) id).2) by rw [Htk.out, if_pos he])
        have hM4 := (hP2.subT (L' := [(w.heap.size + 1 + 1, 25, shV Ai ni ci Al nl cl), (w.heap.size + 1, 25, sh0), (w.heap.size, 25, sh0)]) (fun p hp => List.mem_cons_of_mem _ hp)).setT (by omega) (fun p hp => by simp at hp; rcases hp with rfl | rfl <;> simp <;> omega) (shV Ai2 ni2 ci2 Al2 nl2 cl2)
        have hsh4 := (hsh3.mono (lo' := w.heap.size + 3) (by omega)).box (g := w.heap.size + 1 + 1) (by omega) (shV Ai2 ni2 ci2 Al2 nl2 cl2)
        have hs4 : (((w2.alloc (.cells sh0 25)).setRow w2.heap.size (shV Ai2 ni2 ci2 Al2 nl2 cl2)).setRow (w.heap.size + 1 + 1) (shV Ai2 ni2 ci2 Al2 nl2 cl2)).heap.size = ((w2.alloc (.cells sh0 25)).setRow w2.heap.size (shV Ai2 ni2 ci2 Al2 nl2 cl2)).heap.size := size_setRowT _ _ _
        rw [← hs4] at hsh4
        have hr0 := hP2.get 0 rfl
        have hr2 := hP2.get 1 rfl
        have HM4 := Lib.hid hM4
        have HX4 := Lib.hid hsh4
        clear hin hM hX c1 hsh2 hsh3 hB3 hM4 hsh4 hP2 hb2
        go_wp2_with (first
          | ((with_reducible show wpList _ _ _ (⟨none, Op.store 25 _ _, _, _, _, _⟩ :: _) _ _); refine wpList_store_row rfl 25 (.tmp 15) (.tmp 38) rfl (w2.heap.size) (shV Ai2 ni2 ci2 Al2 nl2 cl2) rfl rfl 25 _ (RowC.new _ _ _) (sizeSh _ _ _ _ _ _) rfl (one_sh _ _ _ _ _ _) ?_)
          | ((with_reducible show wpList _ _ _ (⟨some 42, _, _, _, _, _⟩ :: _) _ _); refine wpList_loadC (by kernel_rfl) 25 (.tmp 15) rfl (w2.heap.size) rfl 25 (shV Ai2 ni2 ci2 Al2 nl2 cl2) _ hr0 Try.underlying25 rfl (sizeSh _ _ _ _ _ _) ?_)
          | ((with_reducible show wpList _ _ _ (⟨none, Op.store 25 _ _, _, _, _, _⟩ :: _) _ _); refine wpList_store_row rfl 25 (.tmp 12) (.tmp 42) rfl (w.heap.size + 1 + 1) (shV Ai2 ni2 ci2 Al2 nl2 cl2) rfl rfl 25 _ hr2 (sizeSh _ _ _ _ _ _) rfl (one_sh _ _ _ _ _ _) ?_))
        go_roundw
        case rel => exact ⟨j + 1, Ai2, ni2, ci2, Al2, nl2, cl2, by omega, by go_num, by rw [Hyes.out]; exact HX4.out, HM4.out⟩
        case measure => simp [intOf]; omega
    · obtain rfl : nx = j := by omega
      rw [show xs.take nx = xs by rw [← Hxl.out, List.take_length]] at hX
      have hP := hM.put 25 sh0 (shV Ai ni ci Al nl cl)
      have hB2 := below_setRow ((Below.refl wr.heap.size wr).alloc (Nat.le_refl _) (.cells sh0 25)) (Nat.le_refl _) (shV Ai ni ci Al nl cl)
      go_upto_region 10 with (first
        | ((with_reducible show wpList _ _ _ (⟨some 44, _, _, _, _, _⟩ :: _) _ _); refine wpList_loadC (by kernel_rfl) 25 (.tmp 12) rfl (w.heap.size + 1 + 1) rfl 25 (shV Ai ni ci Al nl cl) _ (hM.get 0 rfl) Try.underlying25 rfl (sizeSh _ _ _ _ _ _) ?_)
        | ((with_reducible show wpList _ _ _ (⟨none, Op.store 25 _ _, _, _, _, _⟩ :: _) _ _); refine wpList_store_row rfl 25 (.tmp 17) (.tmp 44) rfl wr.heap.size (shV Ai ni ci Al nl cl) rfl rfl 25 _ (RowC.new _ _ _) (sizeSh _ _ _ _ _ _) rfl (one_sh _ _ _ _ _ _) ?_))
      try simp only [Act.put]
      have hXo := hX.below hB2
      have hlo3 : w.heap.size + 3 ≤ wr.heap.size := by omega
      obtain ⟨gO, hgO⟩ : ∃ g, g = wr.heap.size := ⟨_, rfl⟩
      have hPo := (Ms.nil wr).put 25 sh0 (shV Ai ni ci Al nl cl)
      have HMo := Lib.hid hM
      have HXO := Lib.hid hX
      rw [← hgO] at hPo hXo hlo3 ⊢
      refine wp_gen (fun wx => Ms wr wx [(gO, 25, shV Ai ni ci Al nl cl)] ∧ ShN (w.heap.size + 3) wx gO Ai ni ci Al nl cl (oldS xs).1 (oldS xs).2) ⟨hPo, hXo⟩ ?_
      clear hP hB2 hPo hXo hM hX
      obtain ⟨wO, hwO⟩ : ∃ wO, wO = wr := ⟨_, rfl⟩
      obtain ⟨Oi, hOi⟩ : ∃ x, x = Ai := ⟨_, rfl⟩
      obtain ⟨oi, hoi⟩ : ∃ x, x = ni := ⟨_, rfl⟩
      obtain ⟨ocap, hocap⟩ : ∃ x, x = ci := ⟨_, rfl⟩
      obtain ⟨Ol, hOl⟩ : ∃ x, x = Al := ⟨_, rfl⟩
      obtain ⟨ol, hol⟩ : ∃ x, x = nl := ⟨_, rfl⟩
      obtain ⟨olc, holc⟩ : ∃ x, x = cl := ⟨_, rfl⟩
      rw [← hwO] at hgO HMo HXO hb ⊢
      rw [← hOi, ← hoi, ← hocap, ← hOl, ← hol, ← holc] at HMo HXO ⊢
      clear hwO hOi hoi hocap hOl hol holc
      rintro w3 ⟨hM3, hX3⟩
      have HgO := Lib.hid hgO
      clear hgO
      have hz3 := (hM3.get 0 rfl).lt
      have HM3 := Lib.hid hM3
      have HX3 := Lib.hid hX3
      have hbO := hb
      clear hM3 hX3 hb hlt
      go_wp2_with fail
      go_loopw [18, 47] (fun v18 v47 wr => ∃ (j : Nat) (Ai : Option Addr) (ni ci : Nat) (Al : Option Addr) (nl cl s e : Nat), j ≤ no ∧ v47 = .int .i64 (j : Int) ∧ ShN s wr e Ai ni ci Al nl cl (outAll (out.take j) (oldS xs, [])).1.1 (outAll (out.take j) (oldS xs, [])).1.2 ∧ e ≤ wr.heap.size ∧ w.heap.size + 3 ≤ s ∧ (e ≤ gO ∨ gO < s) ∧ gO < wr.heap.size ∧
        Ms wO wr [(gO, 25, shV Ai ni ci Al nl cl)] ∧ wr.ownsRow wO.heap.size 3 1 v18 (outAll (out.take j) (oldS xs, [])).2.length ((outAll (out.take j) (oldS xs, [])).2.map iv) ∧ (∀ g, v18.ownBlock = some g → g < s ∨ e ≤ g)) (fun _ v47 _ => no - (intOf v47).toNat)
      case atStart => exact ⟨0, Oi, oi, ocap, Ol, ol, olc, w.heap.size + 3, gO, by omega, rfl, HX3.out, by omega, Nat.le_refl _, .inl (Nat.le_refl _), hz3, HM3.out, World.ownsRow_nil _ _ _ _, fun g h => by simp [Value.ownBlock] at h⟩
      case round =>
        clear HM3 HX3
        obtain ⟨j, Ai, ni, ci, Al, nl, cl, s, e, hj, rfl, hX, hes, hls, hgs, hgz, hM, hown, hsep⟩ := hrel
        obtain ⟨A8, c8, hv8, hc8, hm8⟩ := own_formT hown
        subst hv8
        have hb := hM.old
        by_cases hjn : j < no
        · have hjx : j < out.length := by rw [Hol.out]; exact hjn
          obtain ⟨b, o, rfl, hbb, c1⟩ := rd_numT ((hro.below hbO).below (hb.mono hbO.size)) hjn
          rw [show out.getD j 0 = out[j] from getD_at (List.getElem?_eq_getElem hjx)] at c1
          have hck : chkT (outAll (out.take j) (oldS xs, [])).1.1 (outAll (out.take j) (oldS xs, [])).1.2 = true := outAll_chk _ _ (old_chk xs)
          have hsl := outAll_len (out.take j) (oldS xs, [])
          rw [List.length_take] at hsl
          have hil := (show ((oldS xs, ([] : List Int)) : (List Int × List (List Int)) × List Int).2.length = 0 from rfl)
          have Htk := Lib.hid (show outAll (out.take (j + 1)) (oldS xs, []) = (if delE (outAll (out.take j) (oldS xs, [])).1.1 (outAll (out.take j) (oldS xs, [])).1.2 out[j] = 0 then (((delS (outAll (out.take j) (oldS xs, [])).1.1 (lvN (outAll (out.take j) (oldS xs, [])).1.2) out[j]).1, levI (delS (outAll (out.take j) (oldS xs, [])).1.1 (lvN (outAll (out.take j) (oldS xs, [])).1.2) out[j]).2), (outAll (out.take j) (oldS xs, [])).2 ++ [out[j]]) else outAll (out.take j) (oldS xs, [])) by
            rw [take_snoc (List.getElem?_eq_getElem hjx), outAll_snoc])
          generalize hS : outAll (out.take j) (oldS xs, []) = St at *
          generalize out[j] = id at *
          have hal := d_al wr (.cells #[.int .i64 id] 3)
          have hfew := few_of_chk hck
          have hXa := hX.below (hal.mono hes)
          have hin := PChange_any Ai ni ci Al nl cl St.1.1 St.1.2 (some ⟨wr.heap.size, 0, none⟩) 1 1 [id] none 0 0 [] (wr.alloc (.cells #[.int .i64 id] 3)) (hXa.sh.more (by simp only [World.size_alloc]; omega)) hfew (Rd.mk_ _ _ _ rfl (by simp) rfl rfl) (by simp [maxLen]) (Rd.zero _ _ _) (by simp [maxLen])
          have hM1 := hM.call hal
          have hown1 := own_below hown hal
          have hza : (wr.alloc (.cells #[.int .i64 id] 3)).heap.size = wr.heap.size + 1 := by simp
          have hb1 := hM.get 0 rfl
          have zj : (j : Int) < (no : Int) := by omega
          have hcg := chg_del hck id
          clear hS hM hX hown
          go_wp2_with ((with_reducible show wpList _ _ _ (⟨some 52, _, _, _, _, _⟩ :: _) _ _); refine wpList_loadC (by kernel_rfl) 25 (.tmp 17) rfl gO rfl 25 (shV Ai ni ci Al nl cl) _ hb1 Try.underlying25 rfl (sizeSh _ _ _ _ _ _) ?_)
          refine hin.mono ?_
          intro e2 w2 hPP
          rw [ChgPost, hcg, hza] at hPP
          obtain ⟨hb2, ⟨he, hee⟩ | ⟨he, Ai2, ni2, ci2, Al2, nl2, cl2, hee, hsh2, _⟩⟩ := hPP
          · subst hee
            have hne0 : ¬ delE St.1.1 St.1.2 id = 0 := fun h => by rw [if_pos h] at he; exact he rfl
            rw [if_neg hne0]
            have hb2' : Below (wr.alloc (.cells #[.int .i64 id] 3)).heap.size (wr.alloc (.cells #[.int .i64 id] 3)) w2 := by rw [hza]; exact hb2
            have hP2 := (hM1.call hb2').put 25 sh0 sh0
            have hB3 := c_call (c_call hal hb2') (below_setRow ((Below.refl w2.heap.size w2).alloc (Nat.le_refl _) (.cells sh0 25)) (Nat.le_refl _) sh0)
            have hB4 := c_call hb2' (below_setRow ((Below.refl w2.heap.size w2).alloc (Nat.le_refl _) (.cells sh0 25)) (Nat.le_refl _) sh0)
            have hX2 := hXa.below (hB4.mono (by omega))
            have hown2 := own_below hown1 hB4
            have Hno := Lib.hid (show outAll (out.take (j + 1)) (oldS xs, []) = St by rw [Htk.out, if_neg hne0])
            generalize delE St.1.1 St.1.2 id = er at *
            have hneb : (er == 0) = false := by simpa using hne0
            have HM2 := Lib.hid (hP2.subT (L' := [(gO, 25, shV Ai ni ci Al nl cl)]) (fun p hp => List.mem_cons_of_mem _ hp))
            have HX2 := Lib.hid hX2
            have Hown2 := Lib.hid hown2
            have Hz2 := Lib.hid hB3.size
            clear hin hM1 hXa c1 hP2 hB3 hB4 hX2 hb2 hb2' hown1 hown2 hcg he hb1
            go_wp2_with ((with_reducible show wpList _ _ _ (⟨none, Op.store 25 _ _, _, _, _, _⟩ :: _) _ _); refine wpList_store_row rfl 25 (.tmp 21) (.tmp 56) rfl (w2.heap.size) sh0 rfl rfl 25 _ (RowC.new _ _ _) shapeInfo2 rfl (by simp [sh0, Value.oneCell']) ?_)
            go_roundw
            case rel => exact ⟨j + 1, Ai, ni, ci, Al, nl, cl, s, e, by omega, by go_num, by rw [Hno.out]; exact HX2.out, Nat.le_trans hes Hz2.out, hls, hgs, Nat.lt_of_lt_of_le hgz Hz2.out, HM2.out, by rw [Hno.out]; exact Hown2.out, hsep⟩
            case measure => simp [intOf]; omega
          · subst hee
            have he0 : delE St.1.1 St.1.2 id = 0 := by
              by_cases h : delE St.1.1 St.1.2 id = 0
              · exact h
              · rw [if_neg h] at he; exact he
            rw [if_pos he0] at hsh2
            have hb2' : Below (wr.alloc (.cells #[.int .i64 id] 3)).heap.size (wr.alloc (.cells #[.int .i64 id] 3)) w2 := by rw [hza]; exact hb2
            have hzb := hb2.size
            have hP2 := (hM1.call hb2').put 25 sh0 (shV Ai2 ni2 ci2 Al2 nl2 cl2)
            have hB4 := below_setRow ((Below.refl w2.heap.size w2).alloc (Nat.le_refl _) (.cells sh0 25)) (Nat.le_refl _) (shV Ai2 ni2 ci2 Al2 nl2 cl2)
            have hX3 := hsh2.below hB4
            have hown3 := own_below (own_below hown1 hb2') hB4
            have hrO := hP2.get 1 rfl
            have hX4 := hX3.box (g := gO) (by omega) (shV Ai2 ni2 ci2 Al2 nl2 cl2)
            have hown4 := own_farT hown3 (grown_setRow _ gO (shV Ai2 ni2 ci2 Al2 nl2 cl2)) hrO sh_ne.1
            have hM4 := (hP2.subT (L' := [(gO, 25, shV Ai ni ci Al nl cl)]) (fun p hp => List.mem_cons_of_mem _ hp)).setT (Nat.le_of_eq HgO.out.symm) (fun p hp => by simp at hp) (shV Ai2 ni2 ci2 Al2 nl2 cl2)
            have hr0 := hP2.get 0 rfl
            have hz4 : (((w2.alloc (.cells sh0 25)).setRow w2.heap.size (shV Ai2 ni2 ci2 Al2 nl2 cl2)).setRow gO (shV Ai2 ni2 ci2 Al2 nl2 cl2)).heap.size = w2.heap.size + 1 := by rw [size_setRowT, size_setRowT]; simp
            have Hyes := Lib.hid (show outAll (out.take (j + 1)) (oldS xs, []) = (((delS St.1.1 (lvN St.1.2) id).1, levI (delS St.1.1 (lvN St.1.2) id).2), St.2 ++ [id]) by rw [Htk.out, if_pos he0])
            have hlt8 : ∀ g, (Value.slice A8 St.2.length c8).ownBlock = some g → g < wr.heap.size + 1 := fun g hg => by
              obtain ⟨cs, hcs⟩ := own_tyT hown1 hg
              have := hcs.lt
              omega
            clear hin hM1 hXa c1 hP2 hB4 hX3 hb2 hb2' hown1 hown3 hcg he hb1 hsh2 hsep hal
            go_upto_region 17 with (first
              | ((with_reducible show wpList _ _ _ (⟨none, Op.store 25 _ _, _, _, _, _⟩ :: _) _ _); refine wpList_store_row rfl 25 (.tmp 21) (.tmp 56) rfl (w2.heap.size) (shV Ai2 ni2 ci2 Al2 nl2 cl2) rfl rfl 25 _ (RowC.new _ _ _) (sizeSh _ _ _ _ _ _) rfl (one_sh _ _ _ _ _ _) ?_)
              | ((with_reducible show wpList _ _ _ (⟨some 60, _, _, _, _, _⟩ :: _) _ _); refine wpList_loadC (by kernel_rfl) 25 (.tmp 21) rfl (w2.heap.size) rfl 25 (shV Ai2 ni2 ci2 Al2 nl2 cl2) _ hr0 Try.underlying25 rfl (sizeSh _ _ _ _ _ _) ?_)
              | ((with_reducible show wpList _ _ _ (⟨none, Op.store 25 _ _, _, _, _, _⟩ :: _) _ _); refine wpList_store_row rfl 25 (.tmp 17) (.tmp 60) rfl gO (shV Ai2 ni2 ci2 Al2 nl2 cl2) rfl rfl 25 _ hrO (sizeSh _ _ _ _ _ _) rfl (one_sh _ _ _ _ _ _) ?_))
            try simp only [Act.put]
            refine wp_gen (fun wx => Ms wO wx [(gO, 25, shV Ai2 ni2 ci2 Al2 nl2 cl2)] ∧ ShN (wr.heap.size + 1) wx w2.heap.size Ai2 ni2 ci2 Al2 nl2 cl2 (delS St.1.1 (lvN St.1.2) id).1 (levI (delS St.1.1 (lvN St.1.2) id).2) ∧ wx.ownsRow wO.heap.size 3 1 (.slice A8 St.2.length c8) St.2.length (St.2.map iv) ∧ wx.heap.size = w2.heap.size + 1) ⟨hM4, hX4, hown4, hz4⟩ ?_
            clear hM4 hX4 hown4 hz4 hr0 hrO
            rintro w5 ⟨hM5, hX5, hown5, hz5⟩
            have hal5 := d_al w5 (.cells #[.int .i64 id] 3)
            have hownA := own_below hown5 hal5
            have hMA := hM5.call hal5
            have hXA := hX5.below (hal5.mono (by omega))
            have hzA : (w5.alloc (.cells #[.int .i64 id] 3)).heap.size = w5.heap.size + 1 := by simp
            have hbOs := hbO.size
            have hsl2 : St.2.length ≤ 1000 := by omega
            have hMsz := hM5.old.size
            have Hz5 := Lib.hid hz5
            clear hM5 hX5 hown5 hal5 hz5
            go_wp2_with (at_builtin; refine wpList_append_rd _ rfl (.tmp 61) (.tmp 63) _ rfl wO.heap.size 3 i0 _ 8 Try.underlying22 hi0 hz0 hz1 hz2 rfl (.slice A8 St.2.length c8) St.2.length _ rfl hownA (w5.heap.size + 1) (some ⟨w5.heap.size, 0, none⟩) 1 1 [iv id] rfl (Rd.mk_ _ _ _ rfl (by omega) rfl rfl) (by intro u hu; simp at hu; subst hu; rfl) (by simp only [maxLen]; omega) (by omega) (by rw [hzA]; omega) ?_; intro v6 w6 hown6 hgr6 hat6)
            have hsz6 := hgr6.size
            have hz5 := Hz5.out
            have hM6 := hMA.grownT hgr6 (own_blockT hownA) (fun p hp q hq e => by
              simp only [List.mem_singleton] at hp
              subst hp
              obtain ⟨cs, hcs⟩ := own_tyT hownA hq
              rw [← e] at hcs
              exact sh_ne.1 (ty_neT (hMA.get 0 rfl) hcs))
            have hX6 := hXA.grownS hgr6 (by omega) (fun g hg => .inl (hlt8 g hg))
            have hsep6 : ∀ g, v6.ownBlock = some g → g < wr.heap.size + 1 ∨ w2.heap.size ≤ g := fun g hg => by
              rcases hat6 with h | h
              · rw [h] at hg; exact .inl (hlt8 g hg)
              · rw [h] at hg; injection hg with hg; exact .inr (by omega)
            have HM6 := Lib.hid hM6
            have HX6 := Lib.hid hX6
            have Hown6 := Lib.hid (show w6.ownsRow wO.heap.size 3 1 v6 (St.2 ++ [id]).length ((St.2 ++ [id]).map iv) by rw [List.length_append, List.map_append]; exact hown6)
            clear hM6 hX6 hown6 hgr6 hat6 hMA hXA hownA hlt8
            go_roundw
            case rel => exact ⟨j + 1, Ai2, ni2, ci2, Al2, nl2, cl2, wr.heap.size + 1, w2.heap.size, by omega, by go_num, by rw [Hyes.out]; exact HX6.out, by omega, by omega, .inr (by omega), by omega, HM6.out, by rw [Hyes.out]; exact Hown6.out, hsep6⟩
            case measure => simp [intOf]; omega
        · obtain rfl : no = j := by omega
          have htk9 : out.take no = out := by rw [← Hol.out, List.take_length]
          rw [htk9] at hX hown hsep
          try rw [htk9]
          clear htk9
          have HX4 := Lib.hid hX
          have HM4 := Lib.hid hM
          have Hown4 := Lib.hid hown
          clear hX hM hown
          go_wp2_with fail
          go_loopw [18, 68] (fun v18 v68 wr => ∃ (j : Nat) (Ai : Option Addr) (ni ci : Nat) (Al : Option Addr) (nl cl s e : Nat), j ≤ nn ∧ v68 = .int .i64 (j : Int) ∧ ShN s wr e Ai ni ci Al nl cl (inAll (inn.take j) (outAll out (oldS xs, []))).1.1 (inAll (inn.take j) (outAll out (oldS xs, []))).1.2 ∧ e ≤ wr.heap.size ∧ w.heap.size + 3 ≤ s ∧ (e ≤ gO ∨ gO < s) ∧ gO < wr.heap.size ∧
            Ms wO wr [(gO, 25, shV Ai ni ci Al nl cl)] ∧ wr.ownsRow wO.heap.size 3 1 v18 (inAll (inn.take j) (outAll out (oldS xs, []))).2.length ((inAll (inn.take j) (outAll out (oldS xs, []))).2.map iv) ∧ (∀ g, v18.ownBlock = some g → g < s ∨ e ≤ g)) (fun _ v68 _ => nn - (intOf v68).toNat)
          case atStart => exact ⟨0, Ai, ni, ci, Al, nl, cl, s, e, by omega, rfl, HX4.out, hes, hls, hgs, hgz, HM4.out, Hown4.out, hsep⟩
          case round =>
            clear HM4 HX4 Hown4 hes hls hgs hgz hsep
            obtain ⟨j, Ai, ni, ci, Al, nl, cl, s, e, hj, rfl, hX, hes, hls, hgs, hgz, hM, hown, hsep⟩ := hrel
            obtain ⟨A8, c8, hv8, hc8, hm8⟩ := own_formT hown
            subst hv8
            have hb := hM.old
            by_cases hjn : j < nn
            · have hjx : j < inn.length := by rw [Hil.out]; exact hjn
              obtain ⟨b, o, rfl, hbb, c1⟩ := rd_numT ((hrn.below hbO).below (hb.mono hbO.size)) hjn
              rw [show inn.getD j 0 = inn[j] from getD_at (List.getElem?_eq_getElem hjx)] at c1
              have hck : chkT (inAll (inn.take j) (outAll out (oldS xs, []))).1.1 (inAll (inn.take j) (outAll out (oldS xs, []))).1.2 = true := inAll_chk _ _ (outAll_chk _ _ (old_chk xs))
              have hsl := inAll_len (inn.take j) (outAll out (oldS xs, []))
              rw [List.length_take] at hsl
              have hil := (show (outAll out (oldS xs, [])).2.length ≤ 40 by have := outAll_len out (oldS xs, []); rw [Hol.out] at this; simp only [List.length_nil] at this; omega)
              have Htk := Lib.hid (show inAll (inn.take (j + 1)) (outAll out (oldS xs, [])) = (if insE (inAll (inn.take j) (outAll out (oldS xs, []))).1.1 (inAll (inn.take j) (outAll out (oldS xs, []))).1.2 inn[j] = 0 then (((insS (inAll (inn.take j) (outAll out (oldS xs, []))).1.1 (lvN (inAll (inn.take j) (outAll out (oldS xs, []))).1.2) inn[j]).1, levI (insS (inAll (inn.take j) (outAll out (oldS xs, []))).1.1 (lvN (inAll (inn.take j) (outAll out (oldS xs, []))).1.2) inn[j]).2), (inAll (inn.take j) (outAll out (oldS xs, []))).2 ++ [inn[j]]) else inAll (inn.take j) (outAll out (oldS xs, []))) by
                rw [take_snoc (List.getElem?_eq_getElem hjx), inAll_snoc])
              generalize hS : inAll (inn.take j) (outAll out (oldS xs, [])) = St at *
              generalize inn[j] = id at *
              have hal := d_al wr (.cells #[.int .i64 id] 3)
              have hfew := few_of_chk hck
              have hXa := hX.below (hal.mono hes)
              have hin := PChange_any Ai ni ci Al nl cl St.1.1 St.1.2 none 0 0 [] (some ⟨wr.heap.size, 0, none⟩) 1 1 [id] (wr.alloc (.cells #[.int .i64 id] 3)) (hXa.sh.more (by simp only [World.size_alloc]; omega)) hfew (Rd.zero _ _ _) (by simp [maxLen]) (Rd.mk_ _ _ _ rfl (by simp) rfl rfl) (by simp [maxLen])
              have hM1 := hM.call hal
              have hown1 := own_below hown hal
              have hza : (wr.alloc (.cells #[.int .i64 id] 3)).heap.size = wr.heap.size + 1 := by simp
              have hb1 := hM.get 0 rfl
              have zj : (j : Int) < (nn : Int) := by omega
              have hcg := chg_ins hck id
              clear hS hM hX hown
              go_wp2_with ((with_reducible show wpList _ _ _ (⟨some 73, _, _, _, _, _⟩ :: _) _ _); refine wpList_loadC (by kernel_rfl) 25 (.tmp 17) rfl gO rfl 25 (shV Ai ni ci Al nl cl) _ hb1 Try.underlying25 rfl (sizeSh _ _ _ _ _ _) ?_)
              refine hin.mono ?_
              intro e2 w2 hPP
              rw [ChgPost, hcg, hza] at hPP
              obtain ⟨hb2, ⟨he, hee⟩ | ⟨he, Ai2, ni2, ci2, Al2, nl2, cl2, hee, hsh2, _⟩⟩ := hPP
              · subst hee
                have hne0 : ¬ insE St.1.1 St.1.2 id = 0 := fun h => by rw [if_pos h] at he; exact he rfl
                rw [if_neg hne0]
                have hb2' : Below (wr.alloc (.cells #[.int .i64 id] 3)).heap.size (wr.alloc (.cells #[.int .i64 id] 3)) w2 := by rw [hza]; exact hb2
                have hP2 := (hM1.call hb2').put 25 sh0 sh0
                have hB3 := c_call (c_call hal hb2') (below_setRow ((Below.refl w2.heap.size w2).alloc (Nat.le_refl _) (.cells sh0 25)) (Nat.le_refl _) sh0)
                have hB4 := c_call hb2' (below_setRow ((Below.refl w2.heap.size w2).alloc (Nat.le_refl _) (.cells sh0 25)) (Nat.le_refl _) sh0)
                have hX2 := hXa.below (hB4.mono (by omega))
                have hown2 := own_below hown1 hB4
                have Hno := Lib.hid (show inAll (inn.take (j + 1)) (outAll out (oldS xs, [])) = St by rw [Htk.out, if_neg hne0])
                generalize insE St.1.1 St.1.2 id = er at *
                have hneb : (er == 0) = false := by simpa using hne0
                have HM2 := Lib.hid (hP2.subT (L' := [(gO, 25, shV Ai ni ci Al nl cl)]) (fun p hp => List.mem_cons_of_mem _ hp))
                have HX2 := Lib.hid hX2
                have Hown2 := Lib.hid hown2
                have Hz2 := Lib.hid hB3.size
                clear hin hM1 hXa c1 hP2 hB3 hB4 hX2 hb2 hb2' hown1 hown2 hcg he hb1
                go_wp2_with ((with_reducible show wpList _ _ _ (⟨none, Op.store 25 _ _, _, _, _, _⟩ :: _) _ _); refine wpList_store_row rfl 25 (.tmp 25) (.tmp 77) rfl (w2.heap.size) sh0 rfl rfl 25 _ (RowC.new _ _ _) shapeInfo2 rfl (by simp [sh0, Value.oneCell']) ?_)
                go_roundw
                case rel => exact ⟨j + 1, Ai, ni, ci, Al, nl, cl, s, e, by omega, by go_num, by rw [Hno.out]; exact HX2.out, Nat.le_trans hes Hz2.out, hls, hgs, Nat.lt_of_lt_of_le hgz Hz2.out, HM2.out, by rw [Hno.out]; exact Hown2.out, hsep⟩
                case measure => simp [intOf]; omega
              · subst hee
                have he0 : insE St.1.1 St.1.2 id = 0 := by
                  by_cases h : insE St.1.1 St.1.2 id = 0
                  · exact h
                  · rw [if_neg h] at he; exact he
                rw [if_pos he0] at hsh2
                have hb2' : Below (wr.alloc (.cells #[.int .i64 id] 3)).heap.size (wr.alloc (.cells #[.int .i64 id] 3)) w2 := by rw [hza]; exact hb2
                have hzb := hb2.size
                have hP2 := (hM1.call hb2').put 25 sh0 (shV Ai2 ni2 ci2 Al2 nl2 cl2)
                have hB4 := below_setRow ((Below.refl w2.heap.size w2).alloc (Nat.le_refl _) (.cells sh0 25)) (Nat.le_refl _) (shV Ai2 ni2 ci2 Al2 nl2 cl2)
                have hX3 := hsh2.below hB4
                have hown3 := own_below (own_below hown1 hb2') hB4
                have hrO := hP2.get 1 rfl
                have hX4 := hX3.box (g := gO) (by omega) (shV Ai2 ni2 ci2 Al2 nl2 cl2)
                have hown4 := own_farT hown3 (grown_setRow _ gO (shV Ai2 ni2 ci2 Al2 nl2 cl2)) hrO sh_ne.1
                have hM4 := (hP2.subT (L' := [(gO, 25, shV Ai ni ci Al nl cl)]) (fun p hp => List.mem_cons_of_mem _ hp)).setT (Nat.le_of_eq HgO.out.symm) (fun p hp => by simp at hp) (shV Ai2 ni2 ci2 Al2 nl2 cl2)
                have hr0 := hP2.get 0 rfl
                have hz4 : (((w2.alloc (.cells sh0 25)).setRow w2.heap.size (shV Ai2 ni2 ci2 Al2 nl2 cl2)).setRow gO (shV Ai2 ni2 ci2 Al2 nl2 cl2)).heap.size = w2.heap.size + 1 := by rw [size_setRowT, size_setRowT]; simp
                have Hyes := Lib.hid (show inAll (inn.take (j + 1)) (outAll out (oldS xs, [])) = (((insS St.1.1 (lvN St.1.2) id).1, levI (insS St.1.1 (lvN St.1.2) id).2), St.2 ++ [id]) by rw [Htk.out, if_pos he0])
                have hlt8 : ∀ g, (Value.slice A8 St.2.length c8).ownBlock = some g → g < wr.heap.size + 1 := fun g hg => by
                  obtain ⟨cs, hcs⟩ := own_tyT hown1 hg
                  have := hcs.lt
                  omega
                clear hin hM1 hXa c1 hP2 hB4 hX3 hb2 hb2' hown1 hown3 hcg he hb1 hsh2 hsep hal
                go_upto_region 25 with (first
                  | ((with_reducible show wpList _ _ _ (⟨none, Op.store 25 _ _, _, _, _, _⟩ :: _) _ _); refine wpList_store_row rfl 25 (.tmp 25) (.tmp 77) rfl (w2.heap.size) (shV Ai2 ni2 ci2 Al2 nl2 cl2) rfl rfl 25 _ (RowC.new _ _ _) (sizeSh _ _ _ _ _ _) rfl (one_sh _ _ _ _ _ _) ?_)
                  | ((with_reducible show wpList _ _ _ (⟨some 81, _, _, _, _, _⟩ :: _) _ _); refine wpList_loadC (by kernel_rfl) 25 (.tmp 25) rfl (w2.heap.size) rfl 25 (shV Ai2 ni2 ci2 Al2 nl2 cl2) _ hr0 Try.underlying25 rfl (sizeSh _ _ _ _ _ _) ?_)
                  | ((with_reducible show wpList _ _ _ (⟨none, Op.store 25 _ _, _, _, _, _⟩ :: _) _ _); refine wpList_store_row rfl 25 (.tmp 17) (.tmp 81) rfl gO (shV Ai2 ni2 ci2 Al2 nl2 cl2) rfl rfl 25 _ hrO (sizeSh _ _ _ _ _ _) rfl (one_sh _ _ _ _ _ _) ?_))
                try simp only [Act.put]
                refine wp_gen (fun wx => Ms wO wx [(gO, 25, shV Ai2 ni2 ci2 Al2 nl2 cl2)] ∧ ShN (wr.heap.size + 1) wx w2.heap.size Ai2 ni2 ci2 Al2 nl2 cl2 (insS St.1.1 (lvN St.1.2) id).1 (levI (insS St.1.1 (lvN St.1.2) id).2) ∧ wx.ownsRow wO.heap.size 3 1 (.slice A8 St.2.length c8) St.2.length (St.2.map iv) ∧ wx.heap.size = w2.heap.size + 1) ⟨hM4, hX4, hown4, hz4⟩ ?_
                clear hM4 hX4 hown4 hz4 hr0 hrO
                rintro w5 ⟨hM5, hX5, hown5, hz5⟩
                have hal5 := d_al w5 (.cells #[.int .i64 id] 3)
                have hownA := own_below hown5 hal5
                have hMA := hM5.call hal5
                have hXA := hX5.below (hal5.mono (by omega))
                have hzA : (w5.alloc (.cells #[.int .i64 id] 3)).heap.size = w5.heap.size + 1 := by simp
                have hbOs := hbO.size
                have hsl2 : St.2.length ≤ 1000 := by omega
                have hMsz := hM5.old.size
                have Hz5 := Lib.hid hz5
                clear hM5 hX5 hown5 hal5 hz5
                go_wp2_with (at_builtin; refine wpList_append_rd _ rfl (.tmp 82) (.tmp 84) _ rfl wO.heap.size 3 i0 _ 8 Try.underlying22 hi0 hz0 hz1 hz2 rfl (.slice A8 St.2.length c8) St.2.length _ rfl hownA (w5.heap.size + 1) (some ⟨w5.heap.size, 0, none⟩) 1 1 [iv id] rfl (Rd.mk_ _ _ _ rfl (by omega) rfl rfl) (by intro u hu; simp at hu; subst hu; rfl) (by simp only [maxLen]; omega) (by omega) (by rw [hzA]; omega) ?_; intro v6 w6 hown6 hgr6 hat6)
                have hsz6 := hgr6.size
                have hz5 := Hz5.out
                have hM6 := hMA.grownT hgr6 (own_blockT hownA) (fun p hp q hq e => by
                  simp only [List.mem_singleton] at hp
                  subst hp
                  obtain ⟨cs, hcs⟩ := own_tyT hownA hq
                  rw [← e] at hcs
                  exact sh_ne.1 (ty_neT (hMA.get 0 rfl) hcs))
                have hX6 := hXA.grownS hgr6 (by omega) (fun g hg => .inl (hlt8 g hg))
                have hsep6 : ∀ g, v6.ownBlock = some g → g < wr.heap.size + 1 ∨ w2.heap.size ≤ g := fun g hg => by
                  rcases hat6 with h | h
                  · rw [h] at hg; exact .inl (hlt8 g hg)
                  · rw [h] at hg; injection hg with hg; exact .inr (by omega)
                have HM6 := Lib.hid hM6
                have HX6 := Lib.hid hX6
                have Hown6 := Lib.hid (show w6.ownsRow wO.heap.size 3 1 v6 (St.2 ++ [id]).length ((St.2 ++ [id]).map iv) by rw [List.length_append, List.map_append]; exact hown6)
                clear hM6 hX6 hown6 hgr6 hat6 hMA hXA hownA hlt8
                go_roundw
                case rel => exact ⟨j + 1, Ai2, ni2, ci2, Al2, nl2, cl2, wr.heap.size + 1, w2.heap.size, by omega, by go_num, by rw [Hyes.out]; exact HX6.out, by omega, by omega, .inr (by omega), by omega, HM6.out, by rw [Hyes.out]; exact Hown6.out, hsep6⟩
                case measure => simp [intOf]; omega
            · obtain rfl : nn = j := by omega
              have htk9 : inn.take nn = inn := by rw [← Hil.out, List.take_length]
              rw [htk9] at hX hown hsep
              try rw [htk9]
              clear htk9
              have hbw := hM.old
              have hMB := HMo.out.call hbw
              have hXold := (HXO.out.sh.below hbw).more hbw.size
              have hrO := hM.get 0 rfl
              have hck9 := Lib.hid (show chgT xs out inn = inAll inn (outAll out (oldS xs, [])) from rfl)
              rw [← hck9.out] at hX hown hsep
              try rw [← hck9.out]
              have hcl9 := chg_len xs out inn
              rw [Hol.out, Hil.out] at hcl9
              generalize hT : chgT xs out inn = T at *
              have hni := hX.sh.hni
              have hkeep : ∀ wx : World, Below wr.heap.size wr wx → (wx.cell? ⟨w.heap.size + 1 + 1, 0, none⟩ = some (.slice Oi oi ocap) ∧ wx.cell? ⟨w.heap.size + 1 + 1, 1, none⟩ = some (.slice Ol ol olc)) ∧ (wx.cell? ⟨gO, 0, none⟩ = some (.slice Ai ni ci) ∧ wx.cell? ⟨gO, 1, none⟩ = some (.slice Al nl cl)) := fun wx hb => ⟨⟨((hMB.get 0 rfl).call hb).cell (i := 0) rfl, ((hMB.get 0 rfl).call hb).cell (i := 1) rfl⟩, (hrO.call hb).cell (i := 0) rfl, (hrO.call hb).cell (i := 1) rfl⟩
              have hb0 : Below wr.heap.size wr wr.drew := c_drew (c_refl wr)
              have hgO3 := HgO.out
              have hbO3 := (HMo.out.get 0 rfl).lt
              have HN0 := Lib.hid (show w.heap.size ≠ w.heap.size + 1 + 1 ∧ w.heap.size ≠ gO by constructor <;> omega)
              have HN1 := Lib.hid (show w.heap.size + 1 ≠ w.heap.size + 1 + 1 ∧ w.heap.size + 1 ≠ gO by constructor <;> omega)
              clear hgO3 hbO3
              have hownd := own_below hown hb0
              have hrmd := ((hrm.below hbO).below (hbw.mono hbO.size)).below (hb0.mono (Nat.le_trans hbO.size hbw.size))
              go_upto_region 27 with fail
              try simp only [Act.put]
              go_region_held3 (fun wx : World => (wx.cell? ⟨w.heap.size + 1 + 1, 0, none⟩ = some (.slice Oi oi ocap) ∧ wx.cell? ⟨w.heap.size + 1 + 1, 1, none⟩ = some (.slice Ol ol olc)) ∧ (wx.cell? ⟨gO, 0, none⟩ = some (.slice Ai ni ci) ∧ wx.cell? ⟨gO, 1, none⟩ = some (.slice Al nl cl)))
                (first | exact hS6 | exact hkeep _ hb0 | exact keep_far (keep_far hS6 HN0.out.1 HN0.out.2) HN0.out.1 HN0.out.2 | exact keep_far (keep_far (keep_far (keep_far hS6 HN0.out.1 HN0.out.2) HN0.out.1 HN0.out.2) HN1.out.1 HN1.out.2) HN1.out.1 HN1.out.2)
                (first | (refine step_append_rdT (by kernel_rfl) (some 91) rfl (.tmp 89) (.tmp 90) _ rfl wO.heap.size 3 i0 _ 8 Try.underlying22 hi0 hz0 hz1 hz2 rfl (.slice A8 T.2.length c8) T.2.length _ rfl hownd w.heap.size Am nm cm (more.map iv) rfl hrmd (one_iv _) (by simp only [maxLen]; omega) (by omega) hbw.size ?_; intro v6 w6 hown6 hgr6 hat6; obtain ⟨A6, c6, hv6, _, _⟩ := own_formT hown6; subst hv6; have hRa := rowc_grown (hMB.get 0 rfl).drew hgr6 (fun q hq => by obtain ⟨cs, hcs⟩ := own_tyT hownd hq; exact ty_apart (hMB.get 0 rfl).drew hcs sh_ne.1); have hRb := rowc_grown hrO.drew hgr6 (fun q hq => by obtain ⟨cs, hcs⟩ := own_tyT hownd hq; exact ty_apart hrO.drew hcs sh_ne.1); have hR8 := rowc_grown (hMB.get 2 rfl).drew hgr6 (fun q hq => by obtain ⟨cs, hcs⟩ := own_tyT hownd hq; exact ty_apart (hMB.get 2 rfl).drew hcs sh_ne.1); have hR9 := rowc_grown (hMB.get 1 rfl).drew hgr6 (fun q hq => by obtain ⟨cs, hcs⟩ := own_tyT hownd hq; exact ty_apart (hMB.get 1 rfl).drew hcs sh_ne.1); have hS6 : (w6.cell? ⟨w.heap.size + 1 + 1, 0, none⟩ = some (.slice Oi oi ocap) ∧ w6.cell? ⟨w.heap.size + 1 + 1, 1, none⟩ = some (.slice Ol ol olc)) ∧ (w6.cell? ⟨gO, 0, none⟩ = some (.slice Ai ni ci) ∧ w6.cell? ⟨gO, 1, none⟩ = some (.slice Al nl cl)) := ⟨⟨hRa.cell (i := 0) rfl, hRa.cell (i := 1) rfl⟩, hRb.cell (i := 0) rfl, hRb.cell (i := 1) rfl⟩; have e80 := hR8.cell (i := 0) (v := .slice none 0 0) rfl; have e81 := hR8.cell (i := 1) (v := .slice none 0 0) rfl; have e90 := hR9.cell (i := 0) (v := .slice none 0 0) rfl; have e91 := hR9.cell (i := 1) (v := .slice none 0 0) rfl; have f80 := hR8.frozen 0; have f81 := hR8.frozen 1; have f90 := hR9.frozen 0; have f91 := hR9.frozen 1))
              have hM6 := hMB.drew.grownT hgr6 (fun k hk => Nat.le_trans hbO.size (own_blockT hownd k hk)) (fun p hp k hk e => by
                obtain ⟨cs, hcs⟩ := own_tyT hownd hk
                simp only [List.mem_cons, List.not_mem_nil, or_false] at hp
                rcases hp with rfl | rfl | rfl
                · exact ty_apart (hMB.get 0 rfl).drew hcs sh_ne.1 e
                · exact ty_apart (hMB.get 1 rfl).drew hcs sh_ne.1 e
                · exact ty_apart (hMB.get 2 rfl).drew hcs sh_ne.1 e)
              have hM7 := (hM6.subT (L' := [(w.heap.size, 25, sh0), (w.heap.size + 1, 25, sh0)]) (fun p hp => by simp only [List.mem_cons, List.not_mem_nil, or_false] at hp ⊢; rcases hp with rfl | rfl <;> simp)).setCellT (Nat.le_refl _) (fun p hp => by simp only [List.mem_cons, List.not_mem_nil, or_false] at hp; subst hp; simp) 0 (.slice Oi oi ocap)
              have hM8 := hM7.setCellT (Nat.le_refl _) (fun p hp => by simp only [List.mem_cons, List.not_mem_nil, or_false] at hp; subst hp; simp) 1 (.slice Ol ol olc)
              have hM9 := (hM8.subT (L' := [(w.heap.size + 1, 25, sh0), (w.heap.size, 25, shV Oi oi ocap Ol ol olc)]) (fun p hp => by simp only [List.mem_cons, List.not_mem_nil, or_false] at hp ⊢; rcases hp with rfl | rfl <;> simp [sh0, shV])).setCellT (Nat.le_succ _) (fun p hp => by simp only [List.mem_cons, List.not_mem_nil, or_false] at hp; subst hp; simp) 0 (.slice Ai ni ci)
              have hMZ := hM9.setCellT (Nat.le_succ _) (fun p hp => by simp only [List.mem_cons, List.not_mem_nil, or_false] at hp; subst hp; simp) 1 (.slice Al nl cl)
              have hl3 := hls
              have hsz6 : wr.heap.size ≤ w6.heap.size := hgr6.size
              have hwO6 : wO.heap.size ≤ w6.heap.size := Nat.le_trans hbw.size hsz6
              have hO6 := ((HXO.out.below hbw).below (hb0.mono hbw.size)).grownS hgr6 hbw.size (fun g hg => .inr (own_blockT hownd g hg))
              have hA6 := (hX.below (hb0.mono hes)).grownS hgr6 hes (fun g hg => hsep g hg)
              have hO9 := chg_far w.heap.size (by omega) hwO6 hO6 (.slice Oi oi ocap) (.slice Ol ol olc) (.slice Ai ni ci) (.slice Al nl cl)
              have hA9 := chg_far w.heap.size hls (Nat.le_trans hes hsz6) hA6 (.slice Oi oi ocap) (.slice Ol ol olc) (.slice Ai ni ci) (.slice Al nl cl)
              have hw9 : w.heap.size + 1 < wO.heap.size := (HMo.out.get 1 rfl).lt
              have hown9 := ownsRow_setCell_below (ownsRow_setCell_below (ownsRow_setCell_below (ownsRow_setCell_below hown6 (a := ⟨w.heap.size, 0, none⟩) (by simp only; omega) (.slice Oi oi ocap)) (a := ⟨w.heap.size, 1, none⟩) (by simp only; omega) (.slice Ol ol olc)) (a := ⟨w.heap.size + 1, 0, none⟩) (by simp only; omega) (.slice Ai ni ci)) (a := ⟨w.heap.size + 1, 1, none⟩) (by simp only; omega) (.slice Al nl cl)
              have hz9 : ((((w6.setCell ⟨w.heap.size, 0, none⟩ (.slice Oi oi ocap)).setCell ⟨w.heap.size, 1, none⟩ (.slice Ol ol olc)).setCell ⟨w.heap.size + 1, 0, none⟩ (.slice Ai ni ci)).setCell ⟨w.heap.size + 1, 1, none⟩ (.slice Al nl cl)).heap.size = w6.heap.size := by simp
              have hsp9 : ∀ g, (Value.slice A6 (T.2.length + nm) c6).ownBlock = some g → (g < w.heap.size + 3 ∨ wO.heap.size ≤ g) ∧ (g < s ∨ e ≤ g) := fun g hg => ⟨.inr (own_blockT hown6 g hg), by
                rcases hat6 with h | h
                · exact hsep g (h ▸ hg)
                · rw [h] at hg; injection hg with hg; exact .inr (by have : wr.drew.heap.size = wr.heap.size := rfl; omega)⟩
              have hF := HP.out _ _ _ _ _ _ _ _ _ _ _ _ _ _ _ _ _ _ _ _ _ hMZ.old hO9 (by rw [hz9]; exact hwO6) hA9 (by rw [hz9]; exact Nat.le_trans hes hsz6) (show World.ownsRow _ w.heap.size _ _ _ _ _ by rw [List.map_append]; exact own_monoT hown9 hbO.size) hsp9 rfl
              have hRA := hMZ.get 1 rfl
              have hRB := hMZ.get 0 rfl
              clear hM6 hM7 hM8 hM9 hMZ hO6 hA6 hO9 hA9 hown9 hown6 hownd hRa hRb hR8 hR9
              go_wp2_with fail
              skip
              exact bodyPost_ret (results_cctt (p := 8) (q := 9) (r := 10) (u := 11) rfl _ _ w.heap.size (w.heap.size + 1) 25 25 (shV Oi oi ocap Ol ol olc) (shV Ai ni ci Al nl cl) _ _ rfl hRA rfl hRB Try.underlying25 rfl Try.underlying25 rfl (sizeSh _ _ _ _ _ _) (sizeSh _ _ _ _ _ _)) rfl hF

end Go.Proofs.Ytmganbdbihjbmaa

