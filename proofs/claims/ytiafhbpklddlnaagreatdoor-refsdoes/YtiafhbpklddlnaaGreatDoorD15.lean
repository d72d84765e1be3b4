import Derived.Test.YtiafhbpklddlnaaGreatDoorD14
/- The walks of a Reader's Text. -/
namespace Go.Proofs.YtiafhbpklddlnaaGreatDoor
open Go.RowKit

set_option maxHeartbeats 1000000 in
theorem textBounds_any (a : Option Addr) (n cap : Nat) (most : Int) (l : List UInt8) (w : World) (hb : Bytes w a n l) (hm : n ≤ maxLen) (hmost : most ≤ 9223372036854775807) :
    Calls Tryz.prog 81 #[.slice a n cap, .int .i64 most] w fun e w' => e = .returned (.tuple #[.int .i64 (txt l most).1, .int .i64 (txt l most).2.1, .int .i64 (txt l most).2.2]) ∧ w' = w := by
  have hmx := hm
  unfold maxLen at hmx
  have hl := hb.1
  by_cases h0 : most < 0
  · rw [txt_arg l most h0]
    go_enter Tryz.func81, Tryz.ntmps81
    go_wp2
    go_ret3
    exact ⟨rfl, rfl⟩
  · have hle := num_le l
    have hfit := num_fits l
    have hpos := num_pos l
    obtain ⟨x, k, er, hnum⟩ : ∃ x k er, num l = (x, k, er) := ⟨_, _, _, rfl⟩
    have T1 := txt_num l most h0
    have T2 := txt_long l most h0
    have T3 := txt_short l most h0
    have T4 := txt_ok l most h0
    rw [hnum] at hle hfit hpos T1 T2 T3 T4
    simp only at hle hfit hpos T1 T2 T3 T4
    rw [hl] at hle T3 T4
    have Hnum : Hid (num l = (x, k, er)) := hnum
    clear hnum
    by_cases her : er = 0
    · subst her
      by_cases hlong : most < x
      · rw [T2 rfl hlong]
        clear T1 T2 T3 T4 hl
        go_enter Tryz.func81, Tryz.ntmps81
        go_wp2_with fail
        refine (shortForm_any a n cap l _ hb hm).mono ?_
        rw [Hnum.out]
        rintro e w1 ⟨rfl, rfl⟩
        go_wp2
        go_ret3
        exact ⟨rfl, rfl⟩
      · by_cases hsh : ((n - k : Nat) : Int) < x
        · rw [T3 rfl hlong hsh]
          clear T1 T2 T3 T4 hl
          have hsub : (n : Int) - (k : Int) = ((n - k : Nat) : Int) := by omega
          go_enter Tryz.func81, Tryz.ntmps81
          go_wp2_with fail
          refine (shortForm_any a n cap l _ hb hm).mono ?_
          rw [Hnum.out]
          rintro e w1 ⟨rfl, rfl⟩
          go_wp2
          go_ret3
          exact ⟨rfl, rfl⟩
        · rw [T4 rfl hlong hsh]
          clear T1 T2 T3 T4 hl
          have hsub : (n : Int) - (k : Int) = ((n - k : Nat) : Int) := by omega
          obtain ⟨X, hX⟩ := Int.eq_ofNat_of_zero_le hfit.1
          subst hX
          go_enter Tryz.func81, Tryz.ntmps81
          go_wp2_with fail
          refine (shortForm_any a n cap l _ hb hm).mono ?_
          rw [Hnum.out]
          rintro e w1 ⟨rfl, rfl⟩
          go_wp2
          go_ret3
          exact ⟨by simp, rfl⟩
    · have hne : (er != 0) = true := by simpa using her
      rw [T1 her]
      clear T1 T2 T3 T4 hl
      go_enter Tryz.func81, Tryz.ntmps81
      go_wp2_with fail
      refine (shortForm_any a n cap l _ hb hm).mono ?_
      rw [Hnum.out]
      rintro e w1 ⟨rfl, rfl⟩
      go_wp2
      go_ret3
      exact ⟨rfl, rfl⟩

theorem text_stuck (w : World) (r g p : Nat) (x most : Int) (l : List UInt8) (h : Rd w r g p x l) (hx : (x != 0) = true) :
    Calls Tryz.prog 50 #[.pointer (some ⟨r, 0, none⟩), .int .i64 most] w fun e w' => e = .returned (.string ⟨#[]⟩) ∧ w' = w := by
  go_enter Tryz.func50, Tryz.ntmps50
  go_wp2_with fail
  refine (stuck_yes _ r x h.c1 hx).mono ?_
  rintro e w1 ⟨rfl, rfl⟩
  go_wp2
  go_ret
  exact ⟨rfl, rfl⟩

set_option maxHeartbeats 400000 in
theorem text_no (w : World) (r g p m : Nat) (most : Int) (l : List UInt8) (h : Rd w r g p 0 l) (hm : l.length = p + m) (hmost : most ≤ 9223372036854775807) (hn : ((txt (l.drop p) most).2.2 != 0) = true) :
    Calls Tryz.prog 50 #[.pointer (some ⟨r, 0, none⟩), .int .i64 most] w fun e w' => e = .returned (.string ⟨#[]⟩) ∧ Rd w' r g p (txt (l.drop p) most).2.2 l ∧ w.grownBy w' (some r) := by
  have hl := h.hl
  have Hm : Hid (l.length = p + m) := hm
  have hml : m ≤ maxLen := by omega
  obtain ⟨f, t, er, htx⟩ : ∃ f t er, txt (l.drop p) most = (f, t, er) := ⟨_, _, _, rfl⟩
  have Htx : Hid (txt (l.drop p) most = (f, t, er)) := htx
  rw [htx] at hn ⊢
  simp only at hn ⊢
  clear hm htx hl
  go_enter Tryz.func50, Tryz.ntmps50
  go_wp2_with fail
  refine (stuck_no _ r h.c1).mono ?_
  rintro e w1 ⟨rfl, rfl⟩
  go_wp2_with fail
  refine (rest_any _ r g p m 0 l h Hm.out).mono ?_
  rintro e w2 ⟨q, j, rfl, hb, rfl⟩
  go_wp2_with fail
  refine (textBounds_any _ m m most (l.drop p) _ (hb.drewN j) hml hmost).mono ?_
  rw [Htx.out]
  rintro e w3 ⟨rfl, rfl⟩
  go_wp2_with fail
  refine (settle_no _ r t _ _ (h.drewN j).c1 (h.drewN j).f1 hn).mono ?_
  rintro e w4 ⟨rfl, rfl⟩
  go_wp2
  go_ret
  exact ⟨rfl, (h.drewN j).setErr _, grownBy_trans (grownBy_drewN _ _ _) (grownBy_setCell _ _ _ _)⟩

theorem Bytes.sub {w : World} {g q m : Nat} {L : List UInt8} (h : Bytes w (some ⟨g, q, none⟩) m L) (f t : Nat) (hft : f ≤ t) (htm : t ≤ m) : Bytes w (some ⟨g, q + f, none⟩) (t - f) ((L.take t).drop f) := by
  have hl := h.1
  refine ⟨by simp; omega, fun h0 => ⟨g, q + f, rfl, fun i hi => ?_⟩⟩
  obtain ⟨b, off, hx, hc⟩ := h.2 (by omega)
  simp only [Option.some.injEq, Addr.mk.injEq, and_true] at hx
  obtain ⟨rfl, rfl⟩ := hx
  rw [bt_drop, bt_take _ _ _ (by omega), Nat.add_assoc]
  exact hc (f + i) (by omega)

set_option maxHeartbeats 400000 in
theorem text_yes (w : World) (r g p m : Nat) (most : Int) (l : List UInt8) (hR : Rd w r g p 0 l) (hm : l.length = p + m) (hmost : most ≤ 9223372036854775807) (hn : (txt (l.drop p) most).2.2 = 0) :
    Calls Tryz.prog 50 #[.pointer (some ⟨r, 0, none⟩), .int .i64 most] w fun e w' => e = .returned (.string ⟨(((l.drop p).take (txt (l.drop p) most).2.1).drop (txt (l.drop p) most).1).toArray⟩) ∧ Rd w' r g (p + (txt (l.drop p) most).2.1) 0 l ∧ w.grownBy w' (some r) := by
  have hl := hR.hl
  have Hm : Hid (l.length = p + m) := hm
  have hml : m ≤ maxLen := by omega
  have hmx : m ≤ 9223372036854775807 := by unfold maxLen at hml; omega
  have hpm : p + m ≤ 9223372036854775807 := by unfold maxLen at hl; omega
  have hbd := txt_bounds (l.drop p) most
  rw [List.length_drop] at hbd
  obtain ⟨f, t, er, htx⟩ : ∃ f t er, txt (l.drop p) most = (f, t, er) := ⟨_, _, _, rfl⟩
  have Htx : Hid (txt (l.drop p) most = (f, t, er)) := htx
  rw [htx] at hn hbd ⊢
  simp only at hn hbd ⊢
  subst hn
  have hft : f ≤ t := hbd.1
  have htm : t ≤ m := by omega
  have i0 : (0 : Int) ≤ (f : Int) := by omega
  have i1 : (f : Int) ≤ (t : Int) := by omega
  have i2 : (t : Int) ≤ (m : Int) := by omega
  clear hm htx hl hbd
  go_enter Tryz.func50, Tryz.ntmps50
  go_wp2_with fail
  refine (stuck_no _ r hR.c1).mono ?_
  rintro e w1 ⟨rfl, rfl⟩
  go_wp2_with fail
  refine (rest_any _ r g p m 0 l hR Hm.out).mono ?_
  rintro e w2 ⟨q, j, rfl, hb, rfl⟩
  go_wp2_with fail
  refine (textBounds_any _ m m most (l.drop p) _ (hb.drewN j) hml hmost).mono ?_
  rw [Htx.out]
  rintro e w3 ⟨rfl, rfl⟩
  go_wp2_with fail
  refine (settle_yes _ r p t (hR.drewN j).c0 (hR.drewN j).f0 (by omega) (by omega) (by omega)).mono ?_
  rintro e w4 ⟨rfl, rfl⟩
  have hbS : Bytes ((w1.drewN j).setCell ⟨r, 0, none⟩ (.int .i64 ((p : Int) + (t : Int)))) (some ⟨g, q, none⟩) m (l.drop p) := (hb.drewN j).kept (grownBy_setCell _ _ _ _) (by simp [hR.ne])
  have hfin : Rd ((w1.drewN j).setCell ⟨r, 0, none⟩ (.int .i64 ((p : Int) + (t : Int)))) r g (p + t) 0 l := (hR.drewN j).setAt (p + t) (by have := Hm.out; omega)
  clear hb
  by_cases hfm : m = f
  · have htf : t - f = 0 := by omega
    have HE : Hid (((l.drop p).take t).drop f = []) := by show _ = []; rw [List.drop_eq_nil_iff]; simp; omega
    have hstr := run_string ((w1.drewN j).setCell ⟨r, 0, none⟩ (.int .i64 ((p : Int) + (t : Int)))) (some ⟨g, q, none⟩) 0 0 [] ⟨rfl, fun h0 => by omega⟩
    go_wp2
    go_ret
    rw [HE.out]
    exact ⟨rfl, hfin, grownBy_trans (grownBy_drewN _ _ _) (grownBy_setCell _ _ _ _)⟩
  · have hstr := run_string ((w1.drewN j).setCell ⟨r, 0, none⟩ (.int .i64 ((p : Int) + (t : Int)))) (some ⟨g, q + f, none⟩) (t - f) (m - f) _ (hbS.sub f t hft htm)
    go_wp2
    go_ret
    exact ⟨rfl, hfin, grownBy_trans (grownBy_drewN _ _ _) (grownBy_setCell _ _ _ _)⟩

end Go.Proofs.YtiafhbpklddlnaaGreatDoor
