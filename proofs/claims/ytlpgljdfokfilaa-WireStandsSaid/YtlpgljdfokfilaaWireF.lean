/-
  CONTRACTS of bytes.Clone, TakeText, Texts, End: wire's and the document's own.
-/
import Derived.Test.YtlpgljdfokfilaaWireE
import Derived.WalkSpells
set_option linter.unusedVariables false
namespace Go.Proofs.Ytlpgljdfokfilaa
open Go.RowKit

theorem Clone_any (A : Option Addr) (k c : Nat) (l : List UInt8) (w : World) (hk : k ≤ 1099511627776) (hr : Rd w w.heap.size A k (l.map bv)) :
    Calls Try.prog 33 #[.slice A k c] w fun e w' =>
      ∃ A' c', e = .returned (.slice A' k c') ∧ w'.ownsRow w.heap.size 5 1 (.slice A' k c') k (l.map bv) ∧ Below w.heap.size w w' := by
  obtain ⟨i0, hi0, hz0, hz1, hz2⟩ := info_parts byteInfo
  have hnil := fun (W : World) (a : Option Addr) (n c n' c' : Nat) => Lib.run_eql_slice_nil (P := Try.prog) W 22 5 a n c n' c' Try.underlying22
  rcases A with _ | ad
  · obtain rfl : k = 0 := by
      rcases Nat.eq_zero_or_pos k with h | h
      · exact h
      · obtain ⟨b, o, h, _⟩ := hr.pos h
        cases h
    obtain rfl : l = [] := by have := hr.len; simpa using this
    go_enter Try.func33, Try.ntmps33
    go_wp2_with fail
    go_ret
    exact ⟨none, 0, rfl, World.ownsRow_nil _ _ _ _, Below.refl _ _⟩
  · go_enter Try.func33, Try.ntmps33
    go_wp2_with (at_builtin; refine wpList_append_rd _ rfl (.tmp 5) (.tmp 6) _ rfl w.heap.size 5 i0 _ 1 Try.underlying22 hi0 hz0 hz1 hz2 rfl (.slice (some ⟨w.heap.size, 0, none⟩) 0 0) 0 [] rfl (own_new _ _ _ #[] (Nat.le_refl _) (by simp [maxLen])) w.heap.size (some ad) k c (l.map bv) rfl (hr.alloc (Nat.le_refl _) _) (one_bv l) (by simp only [maxLen]; omega) (by omega) (by simp) ?_; intro v2 w2 hown2 hgr2 hat2)
    go_ret
    obtain ⟨A', c', rfl, _, _⟩ := own_form hown2
    rw [Nat.zero_add] at hown2 ⊢
    refine ⟨A', c', rfl, by simpa using hown2, ?_⟩
    exact ((Below.refl _ _).alloc (Nat.le_refl _) _).grown hgr2 (by simp) (by simp [Value.ownBlock])

def TakeTextPost (w : World) (l : List UInt8) (d : Int) (e : Ending) (w' : World) : Prop :=
  Below w.heap.size w w' ∧ ((ttE l d = 0 ∧ ∃ A c, e = .returned (.tuple #[.slice A (ttL l d).length c, .int .i64 (ttN l d), .int .i64 0]) ∧
      w'.ownsRow w.heap.size 5 1 (.slice A (ttL l d).length c) (ttL l d).length ((ttL l d).map bv) ∧ (ttL l d).length ≤ c) ∨
    (ttE l d ≠ 0 ∧ e = .returned (.tuple #[.slice none 0 0, .int .i64 0, .int .i64 (ttE l d)])))

theorem TakeTextPost.bad {w w' : World} {l : List UInt8} {d er : Int} (hb : Below w.heap.size w w') (h : ttE l d = er) (h0 : er ≠ 0) : TakeTextPost w l d (.returned (.tuple #[.slice none 0 0, .int .i64 0, .int .i64 er])) w' := by
  subst h
  exact ⟨hb, .inr ⟨h0, rfl⟩⟩

theorem TakeTextPost.yes {w w' : World} {l : List UInt8} {d : Int} {e : Ending} (h : TakeTextPost w l d e w') (h0 : ttE l d = 0) :
    ∃ A c, e = .returned (.tuple #[.slice A (ttL l d).length c, .int .i64 (ttN l d), .int .i64 0]) ∧ w'.ownsRow w.heap.size 5 1 (.slice A (ttL l d).length c) (ttL l d).length ((ttL l d).map bv) ∧ (ttL l d).length ≤ c ∧ Below w.heap.size w w' := by
  obtain ⟨hb, ⟨_, A, c, he, ho, hc⟩ | ⟨h1, _⟩⟩ := h
  · exact ⟨A, c, he, ho, hc, hb⟩
  · exact absurd h0 h1

theorem TakeTextPost.no {w w' : World} {l : List UInt8} {d : Int} {e : Ending} (h : TakeTextPost w l d e w') (h0 : ttE l d ≠ 0) :
    e = .returned (.tuple #[.slice none 0 0, .int .i64 0, .int .i64 (ttE l d)]) ∧ Below w.heap.size w w' := by
  obtain ⟨hb, ⟨h1, _⟩ | ⟨_, he⟩⟩ := h
  · exact absurd h1 h0
  · exact ⟨he, hb⟩

/-- what TakeText's walk asks of the two bytes ahead -/
structure TtOk (l : List UInt8) (a y : Nat) : Prop where
  place : a + 2 ≤ l.length
  small : y < 65536
  err : ttE l (a : Int) = if (l.length : Int) - (a + 2) < (y : Int) then 2 else 0
  val_ : tnV l (a : Int) 2 = y
  nerr : tnE l.length (a : Int) 2 = 0
  next : tnN l.length (a : Int) 2 = a + 2

theorem ttOk {l : List UInt8} {a : Nat} (h1 : tnE l.length (a : Int) 2 = 0) : TtOk l a (tnV l (a : Int) 2) := by
  have hok := tnE_ok h1
  refine ⟨by omega, ?_, ?_, rfl, h1, ?_⟩
  · unfold tnV; rw [if_pos h1]
    refine Nat.lt_of_lt_of_le (val_lt _) ?_
    have : ((l.drop (a : Int).toNat).take (2 : Int).toNat).length ≤ 2 := List.length_take_le _ _
    exact Nat.le_trans (Nat.pow_le_pow_right (by omega) this) (by omega)
  · unfold ttE; rw [if_neg (by omega)]
  · unfold tnN; rw [if_pos h1]

theorem TtOk.post {w w' : World} {l : List UInt8} {a y c : Nat} {A : Option Addr} (h : TtOk l a y) (hy : a + 2 + y ≤ l.length) (hb : Below w.heap.size w w')
    (ho : w'.ownsRow w.heap.size 5 1 (.slice A y c) y (((l.drop (a + 2)).take y).map bv)) :
    TakeTextPost w l a (.returned (.tuple #[.slice A y c, .int .i64 ((a : Int) + 2 + y), .int .i64 0])) w' := by
  have h0 : ttE l (a : Int) = 0 := by rw [h.err, if_neg (by omega)]
  have hL : ttL l (a : Int) = (l.drop (a + 2)).take y := by unfold ttL; rw [if_pos h0, h.val_]; simp
  have hlen : (ttL l (a : Int)).length = y := by rw [hL, List.length_take, List.length_drop]; omega
  obtain ⟨A', c', e', hc, _⟩ := own_form ho
  injection e' with _ _ e3
  subst e3
  refine ⟨hb, .inl ⟨h0, A, c, ?_, ?_, by omega⟩⟩
  · rw [hlen]
    unfold ttN
    rw [if_pos h0, h.val_]
  · rw [hlen, hL]
    exact ho

set_option maxHeartbeats 1000000 in
theorem TakeText_any (A : Option Addr) (k c : Nat) (l : List UInt8) (d : Int) (w : World) (hk : k ≤ 1099511627776) (hkc : k ≤ c) (hr : Rd w w.heap.size A k (l.map bv)) :
    Calls Try.prog 19 #[.slice A k c, .int .i64 d] w (TakeTextPost w l d) := by
  obtain rfl : k = l.length := by have := hr.len; simpa using this.symm
  by_cases h1 : tnE l.length d 2 = 0
  · have hok := tnE_ok h1
    obtain ⟨a, rfl⟩ := Int.eq_ofNat_of_zero_le hok.1
    have hT := ttOk h1
    have hy := hT.small
    have hpl := hT.place
    have HT0 : ∀ W : World, Rd W W.heap.size A l.length (l.map bv) → Calls Try.prog 17 #[.slice A l.length c, .int .i64 (a : Int), .int .i64 2] W fun e w' => e = .returned (.tuple #[.int .u64 (tnV l a 2 : Int), .int .i64 ((a : Int) + 2), .int .i64 0]) ∧ W = w' :=
      fun W hW => (TakeNum_any A l.length c l a 2 W hk hkc hW).mono fun e w' h => by rw [← hT.next, ← hT.nerr]; exact h
    have HT := Lib.hid HT0
    clear h1 hok HT0
    generalize tnV l (a : Int) 2 = y at *
    by_cases h3 : (l.length : Int) - (a + 2) < (y : Int)
    · go_enter Try.func19, Try.ntmps19
      go_wp2_with (go_at_call 17; refine (HT.out _ hr).mono ?_; rintro e w' ⟨rfl, rfl⟩)
      go_ret3
      exact .bad (Below.refl _ _) (by rw [hT.err, if_pos h3]) (by omega)
    · obtain ⟨b, o, rfl, hb, hc⟩ := hr.pos (by omega)
      have hcut : Rd w w.heap.size (if c = a + 2 then some ⟨b, o, none⟩ else some ⟨b, o + (a + 2), none⟩) y (((l.drop (a + 2)).take y).map bv) := by
        have h5 := ((hr.cut (k := a + 2) (cap := c) (by omega) hkc).take (k := y) (by omega))
        rw [← List.map_drop, ← List.map_take] at h5
        simpa [Addr.add_lit] using h5
      have Hc := Lib.hid hc
      clear hc
      rcases Decidable.em (c = a + 2) with rfl | hcap
      · rw [if_pos rfl] at hcut
        have HC := Lib.hid hcut
        clear hcut
        go_enter Try.func19, Try.ntmps19
        go_wp2_with (first
          | (go_at_call 17; refine (HT.out _ hr).mono ?_; rintro e w' ⟨rfl, rfl⟩)
          | (go_at_call 33; refine (Clone_any _ y _ ((l.drop (a + 2)).take y) _ (by omega) HC.out).mono ?_; rintro e w' ⟨A', c', rfl, hown, hbel⟩))
        go_ret3
        exact hT.post (by omega) hbel hown
      · rw [if_neg hcap] at hcut
        have HC := Lib.hid hcut
        clear hcut
        go_enter Try.func19, Try.ntmps19
        go_wp2_with (first
          | (go_at_call 17; refine (HT.out _ hr).mono ?_; rintro e w' ⟨rfl, rfl⟩)
          | (go_at_call 33; refine (Clone_any _ y _ ((l.drop (a + 2)).take y) _ (by omega) HC.out).mono ?_; rintro e w' ⟨A', c', rfl, hown, hbel⟩))
        go_ret3
        exact hT.post (by omega) hbel hown
  · have hE : ttE l d = tnE l.length d 2 := by unfold ttE; rw [if_pos h1]
    have hV : tnV l d 2 = 0 := by unfold tnV; rw [if_neg h1]
    have hN : tnN l.length d 2 = 0 := by unfold tnN; rw [if_neg h1]
    have HT0 : ∀ W : World, Rd W W.heap.size A l.length (l.map bv) → Calls Try.prog 17 #[.slice A l.length c, .int .i64 d, .int .i64 2] W fun e w' => e = .returned (.tuple #[.int .u64 0, .int .i64 0, .int .i64 (tnE l.length d 2)]) ∧ W = w' :=
      fun W hW => (TakeNum_any A l.length c l d 2 W hk hkc hW).mono fun e w' h => by unfold TakeNumPost at h; rw [hN, hV] at h; exact h
    have HT := Lib.hid HT0
    clear hV hN HT0
    have HE := Lib.hid hE
    clear hE
    generalize tnE l.length d 2 = y at *
    have hy : (y == (0 : Int)) = false := by rw [beq_eq_false_iff_ne]; exact h1
    have hy' : (y != (0 : Int)) = true := by rw [bne_iff_ne]; exact h1
    go_enter Try.func19, Try.ntmps19
    go_wp2_with (go_at_call 17; refine (HT.out _ hr).mono ?_; rintro e w' ⟨rfl, rfl⟩)
    go_ret3
    exact .bad (Below.refl _ _) HE.out h1

set_option maxHeartbeats 1000000 in
theorem refTakeText_any (A : Option Addr) (k c : Nat) (l : List UInt8) (d : Int) (w : World) (hk : k ≤ 1099511627776) (hkc : k ≤ c) (hr : Rd w w.heap.size A k (l.map bv)) :
    Calls Try.prog 20 #[.slice A k c, .int .i64 d] w (TakeTextPost w l d) := by
  obtain rfl : k = l.length := by have := hr.len; simpa using this.symm
  by_cases h1 : tnE l.length d 2 = 0
  · have hok := tnE_ok h1
    obtain ⟨a, rfl⟩ := Int.eq_ofNat_of_zero_le hok.1
    have hT := ttOk h1
    have hy := hT.small
    have hpl := hT.place
    have HT0 : ∀ W : World, Rd W W.heap.size A l.length (l.map bv) → Calls Try.prog 18 #[.slice A l.length c, .int .i64 (a : Int), .int .i64 2] W fun e w' => e = .returned (.tuple #[.int .u64 (tnV l a 2 : Int), .int .i64 ((a : Int) + 2), .int .i64 0]) ∧ W = w' :=
      fun W hW => (refTakeNum_any A l.length c l a 2 W hk hkc hW).mono fun e w' h => by rw [← hT.next, ← hT.nerr]; exact h
    have HT := Lib.hid HT0
    clear h1 hok HT0
    generalize tnV l (a : Int) 2 = y at *
    by_cases h3 : (l.length : Int) - (a + 2) < (y : Int)
    · go_enter Try.func20, Try.ntmps20
      go_wp2_with (go_at_call 18; refine (HT.out _ hr).mono ?_; rintro e w' ⟨rfl, rfl⟩)
      go_ret3
      exact .bad (Below.refl _ _) (by rw [hT.err, if_pos h3]) (by omega)
    · obtain ⟨b, o, rfl, hb, hc⟩ := hr.pos (by omega)
      have hcut : Rd w w.heap.size (if c = a + 2 then some ⟨b, o, none⟩ else some ⟨b, o + (a + 2), none⟩) y (((l.drop (a + 2)).take y).map bv) := by
        have h5 := ((hr.cut (k := a + 2) (cap := c) (by omega) hkc).take (k := y) (by omega))
        rw [← List.map_drop, ← List.map_take] at h5
        simpa [Addr.add_lit] using h5
      have Hc := Lib.hid hc
      clear hc
      rcases Decidable.em (c = a + 2) with rfl | hcap
      · rw [if_pos rfl] at hcut
        have HC := Lib.hid hcut
        clear hcut
        go_enter Try.func20, Try.ntmps20
        go_wp2_with (first
          | (go_at_call 18; refine (HT.out _ hr).mono ?_; rintro e w' ⟨rfl, rfl⟩)
          | (go_at_call 11; refine (Copy_any _ y _ ((l.drop (a + 2)).take y) _ (by omega) HC.out).mono ?_; rintro e w' ⟨A', c', rfl, hown, hbel⟩))
        go_ret3
        exact hT.post (by omega) hbel hown
      · rw [if_neg hcap] at hcut
        have HC := Lib.hid hcut
        clear hcut
        go_enter Try.func20, Try.ntmps20
        go_wp2_with (first
          | (go_at_call 18; refine (HT.out _ hr).mono ?_; rintro e w' ⟨rfl, rfl⟩)
          | (go_at_call 11; refine (Copy_any _ y _ ((l.drop (a + 2)).take y) _ (by omega) HC.out).mono ?_; rintro e w' ⟨A', c', rfl, hown, hbel⟩))
        go_ret3
        exact hT.post (by omega) hbel hown
  · have hE : ttE l d = tnE l.length d 2 := by unfold ttE; rw [if_pos h1]
    have hV : tnV l d 2 = 0 := by unfold tnV; rw [if_neg h1]
    have hN : tnN l.length d 2 = 0 := by unfold tnN; rw [if_neg h1]
    have HT0 : ∀ W : World, Rd W W.heap.size A l.length (l.map bv) → Calls Try.prog 18 #[.slice A l.length c, .int .i64 d, .int .i64 2] W fun e w' => e = .returned (.tuple #[.int .u64 0, .int .i64 0, .int .i64 (tnE l.length d 2)]) ∧ W = w' :=
      fun W hW => (refTakeNum_any A l.length c l d 2 W hk hkc hW).mono fun e w' h => by unfold TakeNumPost at h; rw [hN, hV] at h; exact h
    have HT := Lib.hid HT0
    clear hV hN HT0
    have HE := Lib.hid hE
    clear hE
    generalize tnE l.length d 2 = y at *
    have hy : (y == (0 : Int)) = false := by rw [beq_eq_false_iff_ne]; exact h1
    have hy' : (y != (0 : Int)) = true := by rw [bne_iff_ne]; exact h1
    go_enter Try.func20, Try.ntmps20
    go_wp2_with (go_at_call 18; refine (HT.out _ hr).mono ?_; rintro e w' ⟨rfl, rfl⟩)
    go_ret3
    exact .bad (Below.refl _ _) HE.out h1

/-- End: its error -/
def endE (k : Nat) (d : Int) : Int := if d < 0 ∨ k < d then 1 else if d = k then 0 else 3

theorem End_any (A : Option Addr) (k c : Nat) (d : Int) (w : World) :
    Calls Try.prog 24 #[.slice A k c, .int .i64 d] w fun e w' => e = .returned (.int .i64 (endE k d)) ∧ w = w' := by
  by_cases hp : 0 ≤ d ∧ d ≤ k
  · obtain ⟨h1, h2⟩ := hp
    by_cases hk : d = k
    · have he : endE k d = 0 := by unfold endE; rw [if_neg (by omega), if_pos hk]
      subst hk
      have hb : ((k : Int) != (k : Int)) = false := by simp
      rw [he]
      clear he
      go_enter Try.func24, Try.ntmps24
      go_wp2_with (go_at_call 31; refine (isPlace_yes _ _ _ _ _ h1 h2).mono ?_; rintro e w' ⟨rfl, rfl⟩)
      go_ret
      exact ⟨rfl, rfl⟩
    · have he : endE k d = 3 := by unfold endE; rw [if_neg (by omega), if_neg hk]
      have hb : (d != (k : Int)) = true := by rw [bne_iff_ne]; exact hk
      rw [he]
      clear he
      go_enter Try.func24, Try.ntmps24
      go_wp2_with (go_at_call 31; refine (isPlace_yes _ _ _ _ _ h1 h2).mono ?_; rintro e w' ⟨rfl, rfl⟩)
      go_ret
      exact ⟨rfl, rfl⟩
  · have he : endE k d = 1 := by unfold endE; rw [if_pos (by omega)]
    have h' : d < 0 ∨ (k : Int) < d := by omega
    rw [he]
    clear he hp
    go_enter Try.func24, Try.ntmps24
    go_wp2_with (go_at_call 31; refine (isPlace_no _ _ _ _ _ h').mono ?_; rintro e w' ⟨rfl, rfl⟩)
    go_ret
    exact ⟨rfl, rfl⟩

theorem refEnd_any (A : Option Addr) (k c : Nat) (d : Int) (w : World) :
    Calls Try.prog 25 #[.slice A k c, .int .i64 d] w fun e w' => e = .returned (.int .i64 (endE k d)) ∧ w = w' := by
  by_cases hp : 0 ≤ d ∧ d ≤ k
  · obtain ⟨h1, h2⟩ := hp
    by_cases hk : (k : Int) ≤ d
    · have he : endE k d = 0 := by unfold endE; rw [if_neg (by omega), if_pos (by omega)]
      rw [he]
      clear he
      go_enter Try.func25, Try.ntmps25
      go_wp2_with (go_at_call 32; refine (place_yes _ _ _ _ _ h1 h2).mono ?_; rintro e w' ⟨rfl, rfl⟩)
      go_ret
      exact ⟨rfl, rfl⟩
    · have he : endE k d = 3 := by unfold endE; rw [if_neg (by omega), if_neg (by omega)]
      rw [he]
      clear he
      go_enter Try.func25, Try.ntmps25
      go_wp2_with (go_at_call 32; refine (place_yes _ _ _ _ _ h1 h2).mono ?_; rintro e w' ⟨rfl, rfl⟩)
      go_ret
      exact ⟨rfl, rfl⟩
  · have he : endE k d = 1 := by unfold endE; rw [if_pos (by omega)]
    have h' : d < 0 ∨ (k : Int) < d := by omega
    rw [he]
    clear he hp
    go_enter Try.func25, Try.ntmps25
    go_wp2_with (go_at_call 32; refine (place_no _ _ _ _ _ h').mono ?_; rintro e w' ⟨rfl, rfl⟩)
    go_ret
    exact ⟨rfl, rfl⟩

end Go.Proofs.Ytlpgljdfokfilaa
