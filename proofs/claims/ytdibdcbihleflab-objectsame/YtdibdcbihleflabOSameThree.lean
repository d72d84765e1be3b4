/- Whether two commits are the same, for all of them. -/
import Derived.Test.YtdibdcbihleflabOSameTwo
namespace Go.Proofs.Ytdibdcbihleflab
open Go.RowKit

attribute [local go_sem] Oper.semAt_some

theorem Same_ab_bad (t1 : Int) (pa1 : Option Addr) (pn1 pc1 : Nat) (ps1 : List Int) (au1 : ByteArray) (d1 : Int) (tx1 : ByteArray) (t2 : Int) (pa2 : Option Addr) (pn2 pc2 : Nat) (ps2 : List Int) (au2 : ByteArray) (d2 : Int) (tx2 : ByteArray) (w : World) (h : Com w t1 pa1 pn1 pc1 ps1 au1 d1 tx1) (h' : Com w t2 pa2 pn2 pc2 ps2 au2 d2 tx2) (h0 : comErr t1 ps1 au1 tx1 = 0) (h1 : comErr t2 ps2 au2 tx2 ≠ 0) :
    Calls Try.prog 14 #[coV t1 pa1 pn1 pc1 au1 d1 tx1, coV t2 pa2 pn2 pc2 au2 d2 tx2] w fun e w' => e = .returned (.bool false) ∧ Below w.heap.size w w' := by
  have c1 := check_com t1 pa1 pn1 pc1 ps1 au1 d1 tx1 w h
  rw [h0] at c1
  have c2 := fun W hB => check_com t2 pa2 pn2 pc2 ps2 au2 d2 tx2 W (h'.below (W := W) hB)
  have h1' : (comErr t2 ps2 au2 tx2 == 0) = false := beq_eq_false_iff_ne.2 h1
  generalize comErr t2 ps2 au2 tx2 = E at *
  go_enter Try.func14, Try.ntmps14
  go_wp2_with first
    | (go_at_call 19; refine c1.mono ?_; clear c1; rintro e w1 ⟨rfl, hB1⟩)
    | (go_at_call 19; refine (c2 _ hB1).mono ?_; clear c2; rintro e w2 ⟨rfl, hB2⟩)
  go_ret
  exact ⟨rfl, hB1.trans (hB2.mono hB1.size)⟩
theorem Same_ab_ok (t1 : Int) (pa1 : Option Addr) (pn1 pc1 : Nat) (ps1 : List Int) (au1 : ByteArray) (d1 : Int) (tx1 : ByteArray) (t2 : Int) (pa2 : Option Addr) (pn2 pc2 : Nat) (ps2 : List Int) (au2 : ByteArray) (d2 : Int) (tx2 : ByteArray) (w : World) (h : Com w t1 pa1 pn1 pc1 ps1 au1 d1 tx1) (h' : Com w t2 pa2 pn2 pc2 ps2 au2 d2 tx2) (h0 : comErr t1 ps1 au1 tx1 = 0) (h1 : comErr t2 ps2 au2 tx2 = 0) :
    Calls Try.prog 14 #[coV t1 pa1 pn1 pc1 au1 d1 tx1, coV t2 pa2 pn2 pc2 au2 d2 tx2] w fun e w' => e = .returned (.bool (decide (comB t1 ps1 au1 d1 tx1 = comB t2 ps2 au2 d2 tx2))) ∧ Below w.heap.size w w' := by
  have c1 := check_com t1 pa1 pn1 pc1 ps1 au1 d1 tx1 w h
  rw [h0] at c1
  have c2 := fun W hB => check_com t2 pa2 pn2 pc2 ps2 au2 d2 tx2 W (h'.below (W := W) hB)
  rw [h1] at c2
  have e1 := fun W hB => encode_com t1 pa1 pn1 pc1 ps1 au1 d1 tx1 W (h.below (W := W) hB) h0
  have e2 := fun W hB => encode_com t2 pa2 pn2 pc2 ps2 au2 d2 tx2 W (h'.below (W := W) hB) h1
  generalize comB t1 ps1 au1 d1 tx1 = TA at *
  generalize comB t2 ps2 au2 d2 tx2 = TB at *
  go_enter Try.func14, Try.ntmps14
  go_wp2_with first
    | (go_at_call 19; refine c1.mono ?_; clear c1; rintro e w1 ⟨rfl, hB1⟩)
    | (go_at_call 19; refine (c2 _ hB1).mono ?_; clear c2; rintro e w2 ⟨rfl, hB2⟩; have hB : Below w.heap.size w w2 := hB1.trans (hB2.mono hB1.size); clear hB1 hB2)
    | (go_at_call 20; refine (e1 _ hB).mono ?_; clear e1; rintro e w3 ⟨ad, m, cp, rfl, hm, ho, hB3⟩; have hy3 := ho.bytes hm; have hBB : Below w.heap.size w w3 := hB.trans (hB3.mono hB.size); clear ho hm hB hB3)
    | (go_at_call 20; refine (e2 _ hBB).mono ?_; clear e2; rintro e w4 ⟨ad4, m4, cp4, rfl, hm4, ho, hB4⟩; have hy4 := ho.bytes hm4; have hy3' := bytes_below hy3 hB4; clear hy3 ho hm4)
    | (go_at_call 12; refine (equal_any _ ad ad4 m m4 cp cp4 TA TB hy3' hy4).mono ?_; rintro e w5 ⟨rfl, h5⟩; subst h5)
  go_ret
  exact ⟨rfl, hBB.trans (hB4.mono hBB.size)⟩
theorem err_one {t1 t2 : Int} {ps1 ps2 : List Int} {au1 au2 : ByteArray} {d1 d2 : Int} {tx1 tx2 : ByteArray} (h : oneC t1 t2 ps1 ps2 au1 au2 d1 d2 tx1 tx2) : comErr t1 ps1 au1 tx1 = comErr t2 ps2 au2 tx2 := by
  obtain ⟨rfl, rfl, rfl, rfl, rfl⟩ := h
  rfl
theorem Same_ab (t1 : Int) (pa1 : Option Addr) (pn1 pc1 : Nat) (ps1 : List Int) (au1 : ByteArray) (d1 : Int) (tx1 : ByteArray) (t2 : Int) (pa2 : Option Addr) (pn2 pc2 : Nat) (ps2 : List Int) (au2 : ByteArray) (d2 : Int) (tx2 : ByteArray) (w : World) (h : Com w t1 pa1 pn1 pc1 ps1 au1 d1 tx1) (h' : Com w t2 pa2 pn2 pc2 ps2 au2 d2 tx2) :
    Calls Try.prog 14 #[coV t1 pa1 pn1 pc1 au1 d1 tx1, coV t2 pa2 pn2 pc2 au2 d2 tx2] w fun e w' => e = .returned (.bool (decide (comErr t1 ps1 au1 tx1 = 0 ∧ oneC t1 t2 ps1 ps2 au1 au2 d1 d2 tx1 tx2))) ∧ Below w.heap.size w w' := by
  by_cases h0 : comErr t1 ps1 au1 tx1 = 0
  · by_cases h1 : comErr t2 ps2 au2 tx2 = 0
    · refine (Same_ab_ok t1 pa1 pn1 pc1 ps1 au1 d1 tx1 t2 pa2 pn2 pc2 ps2 au2 d2 tx2 w h h' h0 h1).mono fun e w' x => ⟨?_, x.2⟩
      rw [x.1]
      congr 2
      rw [decide_eq_decide]
      constructor
      · intro e
        exact ⟨h0, comB_inj h h' h0 h1 e⟩
      · rintro ⟨_, rfl, rfl, rfl, rfl, rfl⟩
        rfl
    · refine (Same_ab_bad t1 pa1 pn1 pc1 ps1 au1 d1 tx1 t2 pa2 pn2 pc2 ps2 au2 d2 tx2 w h h' h0 h1).mono fun e w' x => ⟨?_, x.2⟩
      rw [x.1, decide_eq_false]
      rintro ⟨_, ho⟩
      exact h1 ((err_one ho).symm.trans h0)
  · refine (Same_com_bad t1 pa1 pn1 pc1 ps1 au1 d1 tx1 w h _ h0).mono fun e w' x => ⟨?_, x.2⟩
    rw [x.1, decide_eq_false]
    exact fun x => h0 x.1
theorem Same_atree (t1 : Int) (pa1 : Option Addr) (pn1 pc1 : Nat) (ps1 : List Int) (au1 : ByteArray) (d1 : Int) (tx1 : ByteArray) (w : World) (h : Com w t1 pa1 pn1 pc1 ps1 au1 d1 tx1) :
    Calls Try.prog 14 #[coV t1 pa1 pn1 pc1 au1 d1 tx1, trV none 0 0] w fun e w' => e = .returned (.bool false) ∧ Below w.heap.size w w' := by
  by_cases h0 : comErr t1 ps1 au1 tx1 = 0
  · have c1 := check_com t1 pa1 pn1 pc1 ps1 au1 d1 tx1 w h
    rw [h0] at c1
    have e1 := fun W hB => encode_com t1 pa1 pn1 pc1 ps1 au1 d1 tx1 W (h.below (W := W) hB) h0
    have hne : decide (comB t1 ps1 au1 d1 tx1 = treeB []) = false := decide_eq_false fun e => by
      have := congrArg List.head? e
      simp [comB, treeB] at this
    have e2 := fun W => encode_tree none 0 0 [] W ⟨rfl, fun h => absurd h (by omega)⟩ (fits_of (l := []) ⟨fun j x hx => by simp at hx, fun j x hx => by simp at hx⟩ (by decide)).2 (by omega)
    generalize comB t1 ps1 au1 d1 tx1 = TA at *
    generalize treeB [] = TB at *
    go_enter Try.func14, Try.ntmps14
    go_wp2_with first
      | (go_at_call 19; refine c1.mono ?_; clear c1; rintro e w1 ⟨rfl, hB1⟩)
      | (go_at_call 19; refine (check_tree_none _).mono ?_; rintro e w2 ⟨rfl, hB2⟩; have hB : Below w.heap.size w w2 := hB1.trans (hB2.mono hB1.size); clear hB1 hB2)
      | (go_at_call 20; refine (e1 _ hB).mono ?_; clear e1; rintro e w3 ⟨ad, m, cp, rfl, hm, ho, hB3⟩; have hy3 := ho.bytes hm; have hBB : Below w.heap.size w w3 := hB.trans (hB3.mono hB.size); clear ho hm hB hB3)
      | (go_at_call 20; refine (e2 _).mono ?_; clear e2; rintro e w4 ⟨ad4, m4, cp4, rfl, hm4, ho, hB4⟩; have hy4 := ho.bytes hm4; have hy3' := bytes_below hy3 hB4; clear hy3 ho hm4)
      | (go_at_call 12; refine (equal_any _ ad ad4 m m4 cp cp4 TA TB hy3' hy4).mono ?_; rw [hne]; rintro e w5 ⟨rfl, h5⟩; subst h5)
    go_ret
    exact ⟨rfl, hBB.trans (hB4.mono hBB.size)⟩
  · exact Same_com_bad t1 pa1 pn1 pc1 ps1 au1 d1 tx1 w h _ h0
end Go.Proofs.Ytdibdcbihleflab
