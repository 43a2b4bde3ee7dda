/-
  CONTRACTS of the document's Same, Few, SameAll.
-/
import Derived.Test.YtlpgljdfokfilaaWireF
set_option linter.unusedVariables false
namespace Go.Proofs.Ytlpgljdfokfilaa
open Go.RowKit

def sameB (l l' : List UInt8) : Bool := l == l'
theorem sameB_refl (l : List UInt8) : sameB l l = true := by simp [sameB]

theorem Same_any (A A' : Option Addr) (k c k' c' : Nat) (l l' : List UInt8) (w : World) (B B' : Nat) (hr : Rd w B A k (l.map bv)) (hr' : Rd w B' A' k' (l'.map bv)) :
    Calls Try.prog 16 #[.slice A k c, .slice A' k' c'] w fun e w' => e = .returned (.bool (sameB l l')) ∧ w = w' := by
  have h1 := run_convert_rd (P := Try.prog) w 22 5 9 Try.underlying22 Try.underlying5 Try.underlying9 (c := c) hr
  have h2 := run_convert_rd (P := Try.prog) w 22 5 9 Try.underlying22 Try.underlying5 Try.underlying9 (c := c') hr'
  go_enter Try.func16, Try.ntmps16
  go_wp2_with fail
  go_ret
  exact ⟨by
    show Ending.returned (.bool ((strOf l).toList == (strOf l').toList)) = _
    rw [strOf_list, strOf_list, sameB], rfl⟩

def FewPost (m : Nat) (w : World) (e : Ending) (w' : World) : Prop := ∃ b : Bool, e = .returned (.bool b) ∧ (b = true → m ≤ 200) ∧ w = w'

theorem Few_any (At : Option Addr) (m ct : Nat) (vs : List Value) (ts : List (List UInt8)) (w : World) (B : Nat) (hm : m ≤ 5864062014805)
    (hv : Rd w B At m vs) (ht : Txs w B vs ts) :
    Calls Try.prog 10 #[.slice At m ct] w (FewPost m w) := by
  have hml : vs.length = m := hv.len
  have htl : ts.length = m := by rw [← ht.1, hml]
  have Hml := Lib.hid hml
  have Htl := Lib.hid htl
  clear hml htl
  go_enter Try.func10, Try.ntmps10
  go_wp2_with fail
  go_loop [3, 8] (fun x i => ∃ j q : Nat, j ≤ m ∧ i = .int .i64 (j : Int) ∧ x = .int .i64 (q : Int) ∧ q ≤ 70000 * j) (fun _ i => m - (intOf i).toNat)
  case atStart => exact ⟨0, 0, by omega, rfl, rfl, by omega⟩
  case round =>
    obtain ⟨j, q, hj, rfl, rfl, hq⟩ := hrel
    by_cases hlt : j < m
    · obtain ⟨b, o, rfl, hb, hc⟩ := hv.pos (by omega)
      obtain ⟨v, hvj⟩ : ∃ v, vs[j]? = some v := ⟨_, List.getElem?_eq_getElem (by have := Hml.out; omega)⟩
      obtain ⟨t, htj⟩ : ∃ t, ts[j]? = some t := ⟨_, List.getElem?_eq_getElem (by have := Htl.out; omega)⟩
      obtain ⟨Ax, cx, rfl, hcx, hrx⟩ := ht.2 j v t hvj htj
      have hcell := hc j _ hvj
      clear hvj htj hc
      go_wp2_with fail
      all_goals
        go_round
        case rel => exact ⟨j + 1, q + min t.length 70000, by omega, by go_num, by first | rfl | (go_num; done) | (congr 1; omega), by omega⟩
        case measure => simp [intOf]; omega
    · obtain rfl : j = m := by omega
      by_cases h2 : j ≤ 200
      · by_cases h3 : q ≤ 140000
        · have h3b : decide ((q : Int) ≤ 140000) = true := by simp; omega
          go_wp2_with fail
          go_ret
          exact ⟨true, rfl, fun _ => h2, rfl⟩
        · have h3b : decide ((q : Int) ≤ 140000) = false := by simp; omega
          go_wp2_with fail
          go_ret
          exact ⟨false, rfl, fun _ => h2, rfl⟩
      · go_wp2_with fail
        go_ret
        exact ⟨false, rfl, fun h => by simp at h, rfl⟩

/-- texts in a list whose own memory is not block 'og' -/
def TxA (w : World) (og : Option Nat) (vs : List Value) (ts : List (List UInt8)) : Prop :=
  vs.length = ts.length ∧ ∀ (i : Nat) (v : Value) (t : List UInt8), vs[i]? = some v → ts[i]? = some t →
    ∃ A c, v = .slice A t.length c ∧ t.length ≤ c ∧ Rd w w.heap.size A t.length (t.map bv) ∧ ∀ ad, A = some ad → ad.block < w.heap.size ∧ some ad.block ≠ og

theorem TxA.nil (w : World) (og : Option Nat) : TxA w og [] [] := ⟨rfl, fun i v t h => by simp at h⟩

theorem TxA.txs {w : World} {og : Option Nat} {vs : List Value} {ts : List (List UInt8)} (h : TxA w og vs ts) : Txs w w.heap.size vs ts :=
  ⟨h.1, fun i v t hv ht => by
    obtain ⟨A, c, e, hc, hr, _⟩ := h.2 i v t hv ht
    exact ⟨A, c, e, hc, hr⟩⟩

theorem own_block {w : World} {base n c : Nat} {e : TypeId} {A : Option Addr} {xs : List Value} (h : w.ownsRow base e 1 (.slice A n c) n xs) : ∀ ad, A = some ad → base ≤ ad.block ∧ ad.block < w.heap.size := by
  intro ad he
  subst he
  exact h.lt ad.block rfl

/-- a text more, behind an append of its head onto the list's own row -/
theorem TxA.snoc {wr w3 w4 : World} {og og' : Option Nat} {vs : List Value} {ts : List (List UInt8)} {A : Option Addr} {c : Nat} {t : List UInt8} {o : Obj} (h : TxA wr og vs ts)
    (hog : ∀ g, og = some g → g < wr.heap.size) (hb : Below wr.heap.size wr w3) (hown : w3.ownsRow wr.heap.size 5 1 (.slice A t.length c) t.length (t.map bv)) (hc : t.length ≤ c)
    (hgr : (w3.alloc o).grownBy w4 og) (hat : og' = og ∨ og' = some (w3.alloc o).heap.size) : TxA w4 og' (vs ++ [.slice A t.length c]) (ts ++ [t]) := by
  have hs3 := hb.size
  have hs4 : w3.heap.size + 1 ≤ w4.heap.size := by have := hgr.size; simpa using this
  have keep : ∀ p : Addr, p.block < w3.heap.size → some p.block ≠ og → w4.cell? p = w3.cell? p := fun p hp hne => by
    rw [World.cell?_of_block (w := w3.alloc o) (hgr.block p.block (by simp; omega) hne)]
    exact World.cell?_alloc_lt w3 o p hp
  have far : ∀ b, b < w3.heap.size → some b ≠ og → some b ≠ og' := fun b hlt hne => by
    rcases hat with rfl | rfl
    · exact hne
    · intro e
      simp at e
      omega
  refine ⟨by simp [h.1], fun i v u hv hu => ?_⟩
  rw [List.getElem?_append] at hv hu
  rw [← h.1] at hu
  split at hv
  · rename_i hi
    rw [if_pos hi] at hu
    obtain ⟨A', c', rfl, hc', hr, hA⟩ := h.2 i v u hv hu
    refine ⟨A', c', rfl, hc', ?_, fun ad he => ?_⟩
    · refine ((hr.below hb).keepAt (w' := w4) ?_).more (by omega)
      intro ad he p hp
      obtain ⟨h1, h2⟩ := hA ad he
      exact keep p (by omega) (by rw [hp]; exact h2)
    · obtain ⟨h1, h2⟩ := hA ad he
      exact ⟨by omega, far _ (by omega) h2⟩
  · rename_i hi
    rw [if_neg hi] at hu
    obtain ⟨h0, rfl⟩ : i - vs.length = 0 ∧ v = .slice A t.length c := by
      rcases Nat.eq_zero_or_pos (i - vs.length) with h0 | h0
      · rw [h0] at hv; simp at hv; exact ⟨h0, hv.symm⟩
      · rw [List.getElem?_eq_none (by simp; omega)] at hv; cases hv
    rw [h0] at hu
    obtain rfl : t = u := by simpa using hu
    have hbl := own_block hown
    have hne : ∀ ad, A = some ad → some ad.block ≠ og := fun ad he e => by
      have h1 := (hbl ad he).1
      have h2 := hog _ e.symm
      omega
    refine ⟨A, c, rfl, hc, ((Rd.of_own hown).keepAt (w' := w4) ?_).more (by omega), fun ad he => ⟨by have := (hbl ad he).2; omega, far _ (hbl ad he).2 (hne ad he)⟩⟩
    intro ad he p hp
    exact keep p (by have := (hbl ad he).2; omega) (by rw [hp]; exact hne ad he)

/-- so many texts from a place on -/
def txF (l : List UInt8) : Nat → Int → Except Int (List (List UInt8) × Int)
  | 0, d => .ok ([], d)
  | n + 1, d => if ttE l d = 0 then (match txF l n (ttN l d) with | .ok (ts, d') => .ok (ttL l d :: ts, d') | .error er => .error er) else .error (ttE l d)
def textsF (l : List UInt8) (d many : Int) : Except Int (List (List UInt8) × Int) := if d < 0 ∨ (l.length : Int) < d ∨ many < 0 then .error 1 else txF l many.toNat d

/-- 'acc' ahead of what is to come -/
def ahead (acc : List (List UInt8)) : Except Int (List (List UInt8) × Int) → Except Int (List (List UInt8) × Int)
  | .ok (ts, d) => .ok (acc ++ ts, d)
  | .error er => .error er

theorem ahead_ahead (a b : List (List UInt8)) (r : Except Int (List (List UInt8) × Int)) : ahead a (ahead b r) = ahead (a ++ b) r := by
  rcases r with e | ⟨ts, d⟩ <;> simp [ahead]
theorem txF_step {l : List UInt8} {n : Nat} {d : Int} (h : ttE l d = 0) : txF l (n + 1) d = ahead [ttL l d] (txF l n (ttN l d)) := by
  rw [txF, if_pos h]
  rcases txF l n (ttN l d) with e | ⟨ts, d⟩ <;> rfl
theorem txF_bad {l : List UInt8} {n : Nat} {d : Int} (h : ttE l d ≠ 0) : txF l (n + 1) d = .error (ttE l d) := by rw [txF, if_neg h]

theorem ttE_ok {l : List UInt8} {d : Int} (h : ttE l d = 0) : 0 ≤ d ∧ ttN l d = d + 2 + (ttL l d).length ∧ ttN l d ≤ l.length := by
  have h1 : tnE l.length d 2 = 0 := by
    unfold ttE at h
    split at h <;> omega
  have hok := tnE_ok h1
  have h2 : ¬ ((l.length : Int) - (d + 2) < (tnV l d 2 : Int)) := by
    intro h3
    unfold ttE at h
    rw [if_neg (by omega), if_pos h3] at h
    omega
  have hN : ttN l d = d + 2 + tnV l d 2 := by unfold ttN; rw [if_pos h]
  have hL : (ttL l d).length = tnV l d 2 := by
    unfold ttL; rw [if_pos h, List.length_take, List.length_drop]; omega
  omega

def TextsPost (w : World) (l : List UInt8) (d many : Int) (e : Ending) (w' : World) : Prop :=
  Below w.heap.size w w' ∧
    ((∃ er, textsF l d many = .error er ∧ er ≠ 0 ∧ e = .returned (.tuple #[.slice none 0 0, .int .i64 0, .int .i64 er])) ∨
     (∃ ts d' A n c vs, textsF l d many = .ok (ts, d') ∧ e = .returned (.tuple #[.slice A n c, .int .i64 d', .int .i64 0]) ∧ w'.ownsRow w.heap.size 22 1 (.slice A n c) n vs ∧ TxA w' (Value.ownBlock (.slice A n c)) vs ts))

set_option maxHeartbeats 1000000 in
theorem Texts_any (A : Option Addr) (k c : Nat) (l : List UInt8) (d many : Int) (w : World) (hk : k ≤ 1099511627776) (hkc : k ≤ c) (hmany : many ≤ 9223372036854775807) (hr : Rd w w.heap.size A k (l.map bv)) :
    Calls Try.prog 21 #[.slice A k c, .int .i64 d, .int .i64 many] w (TextsPost w l d many) := by
  obtain ⟨i0, hi0, hz0, hz1, hz2⟩ := info_parts textInfo
  obtain rfl : k = l.length := by have := hr.len; simpa using this.symm
  by_cases hp : 0 ≤ d ∧ d ≤ l.length
  · obtain ⟨hp1, hp2⟩ := hp
    by_cases hm : 0 ≤ many
    · obtain ⟨n, rfl⟩ := Int.eq_ofNat_of_zero_le hm
      have hT : textsF l d (n : Int) = txF l n d := by unfold textsF; rw [if_neg (by omega)]; simp
      have HT := Lib.hid hT
      clear hT
      go_enter Try.func21, Try.ntmps21
      go_wp2_with (go_at_call 31; refine (isPlace_yes _ _ _ _ _ (by omega) (by omega)).mono ?_; rintro e w' ⟨rfl, rfl⟩)
      go_loopw [1, 9, 22] (fun x v i wr => ∃ (j : Nat) (dj : Int) (acc : List (List UInt8)) (vs : List Value), j ≤ n ∧ i = .int .i64 (j : Int) ∧ x = .int .i64 dj ∧ 0 ≤ dj ∧ dj ≤ l.length ∧ 2 * (j : Int) ≤ dj ∧ Hid (textsF l d (n : Int) = ahead acc (txF l (n - j) dj)) ∧
        wr.ownsRow w.heap.size 22 1 v j vs ∧ TxA wr v.ownBlock vs acc ∧ Below w.heap.size w wr) (fun _ _ i _ => n - (intOf i).toNat)
      case atStart => exact ⟨0, d, [], [], by omega, rfl, rfl, hp1, hp2, by omega, Lib.hid (by rw [HT.out]; rcases txF l n d with e | ⟨ts, d⟩ <;> rfl), World.ownsRow_nil _ _ _ _, TxA.nil _ _, Below.refl _ _⟩
      case round =>
        obtain ⟨j, dj, acc, vs, hj, rfl, rfl, hd0, hd1, hd2, HF, hown1, htx, hbel⟩ := hrel
        have hsz := hbel.size
        by_cases hlt : j < n
        · by_cases hE : ttE l dj = 0
          · obtain ⟨_, hN, hN2⟩ := ttE_ok hE
            have hF2 : textsF l d (n : Int) = ahead (acc ++ [ttL l dj]) (txF l (n - (j + 1)) (ttN l dj)) := by
              rw [HF.out, show n - j = n - (j + 1) + 1 from by omega, txF_step hE, ahead_ahead]
            have HF2 := Lib.hid hF2
            have HE := Lib.hid hE
            have h2 : 2 * ((j : Int) + 1) ≤ ttN l dj := by omega
            have h3 : 0 ≤ ttN l dj := by omega
            clear hF2 hN hE HF
            go_wp2_with (first
              | (go_at_call 19; refine (TakeText_any _ _ _ l dj _ (by omega) (by omega) ((hr.below hbel).more hsz)).mono ?_; intro e w3 hpost; obtain ⟨A3, c3, rfl, hown3, hc3, hb3⟩ := hpost.yes HE.out; have hs3 := hb3.size; have hown1' := own_below hown1 hb3)
              | (at_builtin; refine wpList_append_rd _ rfl (.tmp 34) (.tmp 36) _ rfl w.heap.size 22 i0 _ 24 Try.underlying24 hi0 hz0 hz1 hz2 rfl u9 j vs rfl (hown1'.alloc _) (w3.heap.size + 1) _ 1 1 [.slice A3 (ttL l dj).length c3] rfl (Rd.new _ _ #[_]) (by simp [Value.oneCell']) (by simp only [maxLen]; omega) (by omega) (by simp; omega) ?_; intro v4 w4 hown4 hgr4 hat4))
            go_roundw
            case rel =>
              exact ⟨j + 1, ttN l dj, acc ++ [ttL l dj], vs ++ [.slice A3 (ttL l dj).length c3], by omega, by go_num, rfl, h3, hN2, by omega, HF2, hown4,
                htx.snoc (fun g hg => (hown1.lt g hg).2) hb3 hown3 hc3 hgr4 hat4,
                ((hbel.trans (hb3.mono hsz)).alloc (by omega) _).grown hgr4 (by simp; omega) (fun g hg => (hown1.lt g hg).1)⟩
            case measure => simp [intOf]; omega
          · have HE := Lib.hid hE
            have hbne : (ttE l dj != (0 : Int)) = true := by rw [bne_iff_ne]; exact hE
            clear hE
            go_wp2_with (go_at_call 19; refine (TakeText_any _ _ _ l dj _ (by omega) (by omega) ((hr.below hbel).more hsz)).mono ?_; intro e w3 hpost; obtain ⟨rfl, hb3⟩ := hpost.no HE.out)
            go_ret3
            exact ⟨hbel.trans (hb3.mono hsz), .inl ⟨ttE l dj, by rw [HF.out, show n - j = n - (j + 1) + 1 from by omega, txF_bad HE.out]; rfl, HE.out, rfl⟩⟩
        · obtain rfl : j = n := by omega
          go_wp2_with fail
          go_ret3
          obtain ⟨A', c', rfl, _, _⟩ := own_form hown1
          exact ⟨hbel, .inr ⟨acc, dj, A', j, c', vs, by rw [HF.out]; simp [txF, ahead], rfl, hown1, htx⟩⟩
    · go_enter Try.func21, Try.ntmps21
      go_wp2_with (go_at_call 31; refine (isPlace_yes _ _ _ _ _ (by omega) (by omega)).mono ?_; rintro e w' ⟨rfl, rfl⟩)
      go_ret3
      exact ⟨Below.refl _ _, .inl ⟨1, by unfold textsF; rw [if_pos (by omega)], by omega, rfl⟩⟩
  · have h' : d < 0 ∨ (l.length : Int) < d := by omega
    clear hp
    go_enter Try.func21, Try.ntmps21
    go_wp2_with (go_at_call 31; refine (isPlace_no _ _ _ _ _ h').mono ?_; rintro e w' ⟨rfl, rfl⟩)
    go_ret3
    exact ⟨Below.refl _ _, .inl ⟨1, by unfold textsF; rw [if_pos (by omega)], by omega, rfl⟩⟩

set_option maxHeartbeats 1000000 in
theorem refTexts_any (A : Option Addr) (k c : Nat) (l : List UInt8) (d many : Int) (w : World) (hk : k ≤ 1099511627776) (hkc : k ≤ c) (hmany : many ≤ 9223372036854775807) (hr : Rd w w.heap.size A k (l.map bv)) :
    Calls Try.prog 22 #[.slice A k c, .int .i64 d, .int .i64 many] w (TextsPost w l d many) := by
  obtain ⟨i0, hi0, hz0, hz1, hz2⟩ := info_parts textInfo
  obtain rfl : k = l.length := by have := hr.len; simpa using this.symm
  by_cases hp : 0 ≤ d ∧ d ≤ l.length
  · obtain ⟨hp1, hp2⟩ := hp
    by_cases hm : 0 ≤ many
    · obtain ⟨n, rfl⟩ := Int.eq_ofNat_of_zero_le hm
      have hT : textsF l d (n : Int) = txF l n d := by unfold textsF; rw [if_neg (by omega)]; simp
      have HT := Lib.hid hT
      clear hT
      go_enter Try.func22, Try.ntmps22
      go_wp2_with (go_at_call 32; refine (place_yes _ _ _ _ _ (by omega) (by omega)).mono ?_; rintro e w' ⟨rfl, rfl⟩)
      go_loopw [1, 9, 22] (fun x v i wr => ∃ (j : Nat) (dj : Int) (acc : List (List UInt8)) (vs : List Value), j ≤ n ∧ i = .int .i64 (j : Int) ∧ x = .int .i64 dj ∧ 0 ≤ dj ∧ dj ≤ l.length ∧ 2 * (j : Int) ≤ dj ∧ Hid (textsF l d (n : Int) = ahead acc (txF l (n - j) dj)) ∧
        wr.ownsRow w.heap.size 22 1 v j vs ∧ TxA wr v.ownBlock vs acc ∧ Below w.heap.size w wr) (fun _ _ i _ => n - (intOf i).toNat)
      case atStart => exact ⟨0, d, [], [], by omega, rfl, rfl, hp1, hp2, by omega, Lib.hid (by rw [HT.out]; rcases txF l n d with e | ⟨ts, d⟩ <;> rfl), World.ownsRow_nil _ _ _ _, TxA.nil _ _, Below.refl _ _⟩
      case round =>
        obtain ⟨j, dj, acc, vs, hj, rfl, rfl, hd0, hd1, hd2, HF, hown1, htx, hbel⟩ := hrel
        have hsz := hbel.size
        by_cases hlt : j < n
        · by_cases hE : ttE l dj = 0
          · obtain ⟨_, hN, hN2⟩ := ttE_ok hE
            have hF2 : textsF l d (n : Int) = ahead (acc ++ [ttL l dj]) (txF l (n - (j + 1)) (ttN l dj)) := by
              rw [HF.out, show n - j = n - (j + 1) + 1 from by omega, txF_step hE, ahead_ahead]
            have HF2 := Lib.hid hF2
            have HE := Lib.hid hE
            have h2 : 2 * ((j : Int) + 1) ≤ ttN l dj := by omega
            have h3 : 0 ≤ ttN l dj := by omega
            clear hF2 hN hE HF
            go_wp2_with (first
              | (go_at_call 20; refine (refTakeText_any _ _ _ l dj _ (by omega) (by omega) ((hr.below hbel).more hsz)).mono ?_; intro e w3 hpost; obtain ⟨A3, c3, rfl, hown3, hc3, hb3⟩ := hpost.yes HE.out; have hs3 := hb3.size; have hown1' := own_below hown1 hb3)
              | (at_builtin; refine wpList_append_rd _ rfl (.tmp 34) (.tmp 36) _ rfl w.heap.size 22 i0 _ 24 Try.underlying24 hi0 hz0 hz1 hz2 rfl u9 j vs rfl (hown1'.alloc _) (w3.heap.size + 1) _ 1 1 [.slice A3 (ttL l dj).length c3] rfl (Rd.new _ _ #[_]) (by simp [Value.oneCell']) (by simp only [maxLen]; omega) (by omega) (by simp; omega) ?_; intro v4 w4 hown4 hgr4 hat4))
            go_roundw
            case rel =>
              exact ⟨j + 1, ttN l dj, acc ++ [ttL l dj], vs ++ [.slice A3 (ttL l dj).length c3], by omega, by go_num, rfl, h3, hN2, by omega, HF2, hown4,
                htx.snoc (fun g hg => (hown1.lt g hg).2) hb3 hown3 hc3 hgr4 hat4,
                ((hbel.trans (hb3.mono hsz)).alloc (by omega) _).grown hgr4 (by simp; omega) (fun g hg => (hown1.lt g hg).1)⟩
            case measure => simp [intOf]; omega
          · have HE := Lib.hid hE
            have hbne : (ttE l dj != (0 : Int)) = true := by rw [bne_iff_ne]; exact hE
            clear hE
            go_wp2_with (go_at_call 20; refine (refTakeText_any _ _ _ l dj _ (by omega) (by omega) ((hr.below hbel).more hsz)).mono ?_; intro e w3 hpost; obtain ⟨rfl, hb3⟩ := hpost.no HE.out)
            go_ret3
            exact ⟨hbel.trans (hb3.mono hsz), .inl ⟨ttE l dj, by rw [HF.out, show n - j = n - (j + 1) + 1 from by omega, txF_bad HE.out]; rfl, HE.out, rfl⟩⟩
        · obtain rfl : j = n := by omega
          go_wp2_with fail
          go_ret3
          obtain ⟨A', c', rfl, _, _⟩ := own_form hown1
          exact ⟨hbel, .inr ⟨acc, dj, A', j, c', vs, by rw [HF.out]; simp [txF, ahead], rfl, hown1, htx⟩⟩
    · go_enter Try.func22, Try.ntmps22
      go_wp2_with (go_at_call 32; refine (place_yes _ _ _ _ _ (by omega) (by omega)).mono ?_; rintro e w' ⟨rfl, rfl⟩)
      go_ret3
      exact ⟨Below.refl _ _, .inl ⟨1, by unfold textsF; rw [if_pos (by omega)], by omega, rfl⟩⟩
  · have h' : d < 0 ∨ (l.length : Int) < d := by omega
    clear hp
    go_enter Try.func22, Try.ntmps22
    go_wp2_with (go_at_call 32; refine (place_no _ _ _ _ _ h').mono ?_; rintro e w' ⟨rfl, rfl⟩)
    go_ret3
    exact ⟨Below.refl _ _, .inl ⟨1, by unfold textsF; rw [if_pos (by omega)], by omega, rfl⟩⟩

def sameAllB (ts ts' : List (List UInt8)) : Bool := decide (ts = ts')
theorem sameAllB_eq {ts ts' : List (List UInt8)} (h : ts = ts') : sameAllB ts ts' = true := by simp [sameAllB, h]
theorem sameAllB_ne {ts ts' : List (List UInt8)} (h : ts ≠ ts') : sameAllB ts ts' = false := by simp [sameAllB, h]

theorem quiet_left' {P : Program} {f : FuncId} {args : Array Value} {w : World} {a : Nat} {v : Value} (h : Calls P f args (w.drewN a) fun e w' => e = .returned v ∧ w.drewN a = w') :
    Calls P f args (w.drewN a) fun e w'' => e = .returned v ∧ ∃ m, w'' = w.drewN m :=
  h.mono fun _ _ ⟨he, hm⟩ => ⟨he, a, hm.symm⟩

set_option maxHeartbeats 1000000 in
theorem SameAll_any (A A' : Option Addr) (n c n' c' : Nat) (vs vs' : List Value) (ts ts' : List (List UInt8)) (w : World) (B B' : Nat) (hn : n ≤ 9223372036854775807) (hn' : n' ≤ 9223372036854775807)
    (hv : Rd w B A n vs) (ht : Txs w B vs ts) (hv' : Rd w B' A' n' vs') (ht' : Txs w B' vs' ts') :
    Calls Try.prog 23 #[.slice A n c, .slice A' n' c'] w fun e w' => e = .returned (.bool (sameAllB ts ts')) ∧ ∃ q, w' = w.drewN q := by
  have htl : ts.length = n := by rw [← ht.1, hv.len]
  have htl' : ts'.length = n' := by rw [← ht'.1, hv'.len]
  by_cases hnn : n = n'
  · subst hnn
    have hb : ((n : Int) != (n : Int)) = false := by simp
    go_enter Try.func23, Try.ntmps23
    go_wp2_with fail
    have Htl := Lib.hid htl
    have Htl' := Lib.hid htl'
    clear htl htl'
    go_loopw [13] (fun i wr => ∃ j q : Nat, j ≤ n ∧ i = .int .i64 (j : Int) ∧ Hid (ts.take j = ts'.take j) ∧ Hid (wr = w.drewN q)) (fun i _ => n - (intOf i).toNat)
    case atStart => exact ⟨0, 0, by omega, rfl, Lib.hid rfl, Lib.hid rfl⟩
    case round =>
      obtain ⟨j, q, hj, rfl, Hpre, Hw⟩ := hrel
      have hvr : Rd wr B A n vs := by rw [Hw.out]; exact hv.drewN q
      have hvr' : Rd wr B' A' n vs' := by rw [Hw.out]; exact hv'.drewN q
      by_cases hlt : j < n
      · obtain ⟨b, o, rfl, _, hc⟩ := hvr.pos (by omega)
        obtain ⟨b', o', rfl, _, hc'⟩ := hvr'.pos (by omega)
        obtain ⟨v, hvj⟩ : ∃ v, vs[j]? = some v := ⟨_, List.getElem?_eq_getElem (by have := hv.len; omega)⟩
        obtain ⟨t, htj⟩ : ∃ t, ts[j]? = some t := ⟨_, List.getElem?_eq_getElem (by have := Htl.out; omega)⟩
        obtain ⟨v', hvj'⟩ : ∃ v, vs'[j]? = some v := ⟨_, List.getElem?_eq_getElem (by have := hv'.len; omega)⟩
        obtain ⟨t', htj'⟩ : ∃ t, ts'[j]? = some t := ⟨_, List.getElem?_eq_getElem (by have := Htl'.out; omega)⟩
        obtain ⟨Ax, cx, rfl, hcx, hrx⟩ := ht.2 j v t hvj htj
        obtain ⟨Ay, cy, rfl, hcy, hry⟩ := ht'.2 j v' t' hvj' htj'
        have hrx' : Rd wr B Ax t.length (t.map bv) := by rw [Hw.out]; exact hrx.drewN q
        have hry' : Rd wr B' Ay t'.length (t'.map bv) := by rw [Hw.out]; exact hry.drewN q
        have hcell := hc j _ hvj
        have hcell' := hc' j _ hvj'
        have Htj := Lib.hid htj
        have Htj' := Lib.hid htj'
        have hj0 : 0 ≤ (j : Int) := by omega
        have hj1 : (j : Int) < (n : Int) := by omega
        clear hvj htj hc hvj' htj' hc'
        have HS : ∀ W : World, Rd W B Ax t.length (t.map bv) → Rd W B' Ay t'.length (t'.map bv) → Calls Try.prog 16 #[.slice Ax t.length cx, .slice Ay t'.length cy] W fun e w' => e = .returned (.bool (sameB t t')) ∧ W = w' :=
          fun W h1 h2 => Same_any _ _ _ cx _ cy t t' W _ _ h1 h2
        have HS' := Lib.hid HS
        clear HS
        by_cases hs : t = t'
        · have hsb : sameB t t' = true := by subst hs; exact sameB_refl t
          have Hs := Lib.hid hs
          clear hs
          go_wp2_with fail
          go_quiet ((go_at_call 16; exact quiet_left' (HS'.out _ (hrx'.drewN _) (hry'.drewN _))))
          go_wp2_with fail
          go_roundw
          case rel =>
            refine ⟨j + 1, q + nq, by omega, by go_num, Lib.hid ?_, Lib.hid ?_⟩
            · rw [take_succ_of Htj.out, take_succ_of Htj'.out, Hpre.out, Hs.out]
            · rw [Hw.out, World.drewN_drewN]
          case measure => simp [intOf]; omega
        · have hsb : sameB t t' = false := by simp [sameB, hs]
          have HE := Lib.hid (show sameAllB ts ts' = false from sameAllB_ne (by
            rintro rfl
            have := Htj.out.symm.trans Htj'.out
            injection this with this
            exact hs this))
          have Hs := Lib.hid hs
          clear hs
          go_wp2_with fail
          go_quiet ((go_at_call 16; exact quiet_left' (HS'.out _ (hrx'.drewN _) (hry'.drewN _))))
          go_wp2_with fail
          go_ret
          exact ⟨congrArg (fun b => Ending.returned (.bool b)) HE.out.symm, q + nq, by rw [Hw.out, World.drewN_drewN]⟩
      · obtain rfl : j = n := by omega
        have HE := Lib.hid (show sameAllB ts ts' = true from sameAllB_eq (by
          have h1 := Hpre.out
          rwa [List.take_of_length_le (by have := Htl.out; omega), List.take_of_length_le (by have := Htl'.out; omega)] at h1))
        go_wp2_with fail
        go_ret
        exact ⟨congrArg (fun b => Ending.returned (.bool b)) HE.out.symm, q, Hw.out⟩
  · have hb : ((n : Int) != (n' : Int)) = true := by rw [bne_iff_ne]; omega
    rw [sameAllB_ne (by rintro rfl; omega)]
    clear hnn htl htl'
    go_enter Try.func23, Try.ntmps23
    go_wp2_with fail
    go_ret
    exact ⟨rfl, 0, rfl⟩

end Go.Proofs.Ytlpgljdfokfilaa
