import Derived.Test.YtncagdfbgpdhfaaGreatP02
import Derived.Test.YtncagdfbgpdhfaaGreatProg
import Derived.Outline
import Derived.WalkKit
import Derived.Test.YtncagdfbgpdhfaaGreatP01
import Derived.Tactics
import Derived.Tactics2
import Derived.Defers
import Derived.Recover
import Derived.Laws.Pointers
import Derived.RangeFuncBox
import Derived.Laws.AppendOwnNone
import Derived.Maps.AppendAt
import Derived.Lib.AppendStr
/- The walks of a Reader's Text. -/
namespace Go.Proofs.YtncagdfbgpdhfaaGreat
open Go.RowKit

set_option maxHeartbeats 1000000 in
theorem textBounds_any (a : Option Addr) (n cap : Nat) (most : Int) (l : List UInt8) (w : World) (hb : Bytes w a n l) (hm : n ≤ maxLen) (hmost : most ≤ 9223372036854775807) :
    Calls Tryz.prog 121 #[.slice a n cap, .int .i64 most] w fun e w' => e = .returned (.tuple #[.int .i64 (txt l most).1, .int .i64 (txt l most).2.1, .int .i64 (txt l most).2.2]) ∧ w' = w := by
  have hmx := hm
  unfold maxLen at hmx
  have hl := hb.1
  by_cases h0 : most < 0
  · rw [txt_arg l most h0]
    go_enter Tryz.func121, Tryz.ntmps121
    go_wp2
    go_ret3
    exact ⟨rfl, rfl⟩
  · have hle := num_le l
    have hfit := num_fits l
    have hpos := num_pos l
    obtain ⟨x, k, er, hnum⟩ : ∃ x k er, num l = (x, k, er) := ⟨_, _, _, rfl⟩
    have T1 := txt_num l most h0
    have T2 := txt_long l most h0
    have T3 := txt_short l most h0
    have T4 := txt_ok l most h0
    rw [hnum] at hle hfit hpos T1 T2 T3 T4
    simp only at hle hfit hpos T1 T2 T3 T4
    rw [hl] at hle T3 T4
    have Hnum : Hid (num l = (x, k, er)) := hnum
    clear hnum
    by_cases her : er = 0
    · subst her
      by_cases hlong : most < x
      · rw [T2 rfl hlong]
        clear T1 T2 T3 T4 hl
        go_enter Tryz.func121, Tryz.ntmps121
        go_wp2_with fail
        refine (shortForm_any a n cap l _ hb hm).mono ?_
        rw [Hnum.out]
        rintro e w1 ⟨rfl, rfl⟩
        go_wp2
        go_ret3
        exact ⟨rfl, rfl⟩
      · by_cases hsh : ((n - k : Nat) : Int) < x
        · rw [T3 rfl hlong hsh]
          clear T1 T2 T3 T4 hl
          have hsub : (n : Int) - (k : Int) = ((n - k : Nat) : Int) := by omega
          go_enter Tryz.func121, Tryz.ntmps121
          go_wp2_with fail
          refine (shortForm_any a n cap l _ hb hm).mono ?_
          rw [Hnum.out]
          rintro e w1 ⟨rfl, rfl⟩
          go_wp2
          go_ret3
          exact ⟨rfl, rfl⟩
        · rw [T4 rfl hlong hsh]
          clear T1 T2 T3 T4 hl
          have hsub : (n : Int) - (k : Int) = ((n - k : Nat) : Int) := by omega
          obtain ⟨X, hX⟩ := Int.eq_ofNat_of_zero_le hfit.1
          subst hX
          go_enter Tryz.func121, Tryz.ntmps121
          go_wp2_with fail
          refine (shortForm_any a n cap l _ hb hm).mono ?_
          rw [Hnum.out]
          rintro e w1 ⟨rfl, rfl⟩
          go_wp2
          go_ret3
          exact ⟨by simp, rfl⟩
    · have hne : (er != 0) = true := by simpa using her
      rw [T1 her]
      clear T1 T2 T3 T4 hl
      go_enter Tryz.func121, Tryz.ntmps121
      go_wp2_with fail
      refine (shortForm_any a n cap l _ hb hm).mono ?_
      rw [Hnum.out]
      rintro e w1 ⟨rfl, rfl⟩
      go_wp2
      go_ret3
      exact ⟨rfl, rfl⟩

theorem text_stuck (w : World) (r g p : Nat) (x most : Int) (l : List UInt8) (h : Rd w r g p x l) (hx : (x != 0) = true) :
    Calls Tryz.prog 93 #[.pointer (some ⟨r, 0, none⟩), .int .i64 most] w fun e w' => e = .returned (.string ⟨#[]⟩) ∧ w' = w := by
  go_enter Tryz.func93, Tryz.ntmps93
  go_wp2_with fail
  refine (stuck_yes _ r x h.c1 hx).mono ?_
  rintro e w1 ⟨rfl, rfl⟩
  go_wp2
  go_ret
  exact ⟨rfl, rfl⟩

set_option maxHeartbeats 400000 in
theorem text_no (w : World) (r g p m : Nat) (most : Int) (l : List UInt8) (h : Rd w r g p 0 l) (hm : l.length = p + m) (hmost : most ≤ 9223372036854775807) (hn : ((txt (l.drop p) most).2.2 != 0) = true) :
    Calls Tryz.prog 93 #[.pointer (some ⟨r, 0, none⟩), .int .i64 most] w fun e w' => e = .returned (.string ⟨#[]⟩) ∧ Rd w' r g p (txt (l.drop p) most).2.2 l ∧ w.grownBy w' (some r) := by
  have hl := h.hl
  have Hm : Hid (l.length = p + m) := hm
  have hml : m ≤ maxLen := by omega
  obtain ⟨f, t, er, htx⟩ : ∃ f t er, txt (l.drop p) most = (f, t, er) := ⟨_, _, _, rfl⟩
  have Htx : Hid (txt (l.drop p) most = (f, t, er)) := htx
  rw [htx] at hn ⊢
  simp only at hn ⊢
  clear hm htx hl
  go_enter Tryz.func93, Tryz.ntmps93
  go_wp2_with fail
  refine (stuck_no _ r h.c1).mono ?_
  rintro e w1 ⟨rfl, rfl⟩
  go_wp2_with fail
  refine (rest_any _ r g p m 0 l h Hm.out).mono ?_
  rintro e w2 ⟨q, j, rfl, hb, rfl⟩
  go_wp2_with fail
  refine (textBounds_any _ m m most (l.drop p) _ (hb.drewN j) hml hmost).mono ?_
  rw [Htx.out]
  rintro e w3 ⟨rfl, rfl⟩
  go_wp2_with fail
  refine (settle_no _ r t _ _ (h.drewN j).c1 (h.drewN j).f1 hn).mono ?_
  rintro e w4 ⟨rfl, rfl⟩
  go_wp2
  go_ret
  exact ⟨rfl, (h.drewN j).setErr _, grownBy_trans (grownBy_drewN _ _ _) (grownBy_setCell _ _ _ _)⟩

theorem Bytes.sub {w : World} {g q m : Nat} {L : List UInt8} (h : Bytes w (some ⟨g, q, none⟩) m L) (f t : Nat) (hft : f ≤ t) (htm : t ≤ m) : Bytes w (some ⟨g, q + f, none⟩) (t - f) ((L.take t).drop f) := by
  have hl := h.1
  refine ⟨by simp; omega, fun h0 => ⟨g, q + f, rfl, fun i hi => ?_⟩⟩
  obtain ⟨b, off, hx, hc⟩ := h.2 (by omega)
  simp only [Option.some.injEq, Addr.mk.injEq, and_true] at hx
  obtain ⟨rfl, rfl⟩ := hx
  rw [bt_drop, bt_take _ _ _ (by omega), Nat.add_assoc]
  exact hc (f + i) (by omega)

set_option maxHeartbeats 400000 in
theorem text_yes (w : World) (r g p m : Nat) (most : Int) (l : List UInt8) (hR : Rd w r g p 0 l) (hm : l.length = p + m) (hmost : most ≤ 9223372036854775807) (hn : (txt (l.drop p) most).2.2 = 0) :
    Calls Tryz.prog 93 #[.pointer (some ⟨r, 0, none⟩), .int .i64 most] w fun e w' => e = .returned (.string ⟨(((l.drop p).take (txt (l.drop p) most).2.1).drop (txt (l.drop p) most).1).toArray⟩) ∧ Rd w' r g (p + (txt (l.drop p) most).2.1) 0 l ∧ w.grownBy w' (some r) := by
  have hl := hR.hl
  have Hm : Hid (l.length = p + m) := hm
  have hml : m ≤ maxLen := by omega
  have hmx : m ≤ 9223372036854775807 := by unfold maxLen at hml; omega
  have hpm : p + m ≤ 9223372036854775807 := by unfold maxLen at hl; omega
  have hbd := txt_bounds (l.drop p) most
  rw [List.length_drop] at hbd
  obtain ⟨f, t, er, htx⟩ : ∃ f t er, txt (l.drop p) most = (f, t, er) := ⟨_, _, _, rfl⟩
  have Htx : Hid (txt (l.drop p) most = (f, t, er)) := htx
  rw [htx] at hn hbd ⊢
  simp only at hn hbd ⊢
  subst hn
  have hft : f ≤ t := hbd.1
  have htm : t ≤ m := by omega
  have i0 : (0 : Int) ≤ (f : Int) := by omega
  have i1 : (f : Int) ≤ (t : Int) := by omega
  have i2 : (t : Int) ≤ (m : Int) := by omega
  clear hm htx hl hbd
  go_enter Tryz.func93, Tryz.ntmps93
  go_wp2_with fail
  refine (stuck_no _ r hR.c1).mono ?_
  rintro e w1 ⟨rfl, rfl⟩
  go_wp2_with fail
  refine (rest_any _ r g p m 0 l hR Hm.out).mono ?_
  rintro e w2 ⟨q, j, rfl, hb, rfl⟩
  go_wp2_with fail
  refine (textBounds_any _ m m most (l.drop p) _ (hb.drewN j) hml hmost).mono ?_
  rw [Htx.out]
  rintro e w3 ⟨rfl, rfl⟩
  go_wp2_with fail
  refine (settle_yes _ r p t (hR.drewN j).c0 (hR.drewN j).f0 (by omega) (by omega) (by omega)).mono ?_
  rintro e w4 ⟨rfl, rfl⟩
  have hbS : Bytes ((w1.drewN j).setCell ⟨r, 0, none⟩ (.int .i64 ((p : Int) + (t : Int)))) (some ⟨g, q, none⟩) m (l.drop p) := (hb.drewN j).kept (grownBy_setCell _ _ _ _) (by simp [hR.ne])
  have hfin : Rd ((w1.drewN j).setCell ⟨r, 0, none⟩ (.int .i64 ((p : Int) + (t : Int)))) r g (p + t) 0 l := (hR.drewN j).setAt (p + t) (by have := Hm.out; omega)
  clear hb
  by_cases hfm : m = f
  · have htf : t - f = 0 := by omega
    have HE : Hid (((l.drop p).take t).drop f = []) := by show _ = []; rw [List.drop_eq_nil_iff]; simp; omega
    have hstr := run_string ((w1.drewN j).setCell ⟨r, 0, none⟩ (.int .i64 ((p : Int) + (t : Int)))) (some ⟨g, q, none⟩) 0 0 [] ⟨rfl, fun h0 => by omega⟩
    go_wp2
    go_ret
    rw [HE.out]
    exact ⟨rfl, hfin, grownBy_trans (grownBy_drewN _ _ _) (grownBy_setCell _ _ _ _)⟩
  · have hstr := run_string ((w1.drewN j).setCell ⟨r, 0, none⟩ (.int .i64 ((p : Int) + (t : Int)))) (some ⟨g, q + f, none⟩) (t - f) (m - f) _ (hbS.sub f t hft htm)
    go_wp2
    go_ret
    exact ⟨rfl, hfin, grownBy_trans (grownBy_drewN _ _ _) (grownBy_setCell _ _ _ _)⟩

end Go.Proofs.YtncagdfbgpdhfaaGreat

/- What a reader answers, whatever its state: one contract a call. -/
namespace Go.Proofs.YtncagdfbgpdhfaaGreat
open Go.RowKit

attribute [local go_sem] Oper.semAt_some

def byteR (l : List UInt8) (p : Nat) (e : Int) : Int × Nat × Int := if e ≠ 0 then (0, p, e) else if p < l.length then (bt l p, p + 1, 0) else (0, p, 110)
theorem byte_st (w : World) (r g p : Nat) (e : Int) (l : List UInt8) (h : Rd w r g p e l) :
    Calls Tryz.prog 126 #[.pointer (some ⟨r, 0, none⟩)] w fun x w' => x = .returned (.int .u8 (byteR l p e).1) ∧ Rd w' r g (byteR l p e).2.1 (byteR l p e).2.2 l ∧ w.grownBy w' (some r) := by
  unfold byteR
  by_cases he : e = 0
  · subst he
    rw [if_neg (by simp)]
    by_cases hp : p < l.length
    · rw [if_pos hp]
      exact byte_yes w r g p l h hp
    · rw [if_neg hp]
      exact byte_short w r g p l h (by have := h.hp; omega)
  · rw [if_pos he]
    refine (byte_stuck w r g p e l h (by simp [he])).mono fun x w' hx => ⟨hx.1, ?_, ?_⟩
    · rw [hx.2]; exact h
    · rw [hx.2]; exact ⟨rfl, rfl, rfl, Nat.le_refl _, fun _ _ _ => rfl⟩
def uintR (l : List UInt8) (p : Nat) (e : Int) : Int × Nat × Int := if e ≠ 0 then (0, p, e) else if (num (l.drop p)).2.2 = 0 then ((num (l.drop p)).1, p + (num (l.drop p)).2.1, 0) else (0, p, (num (l.drop p)).2.2)
theorem uint_st (w : World) (r g p : Nat) (e : Int) (l : List UInt8) (h : Rd w r g p e l) :
    Calls Tryz.prog 156 #[.pointer (some ⟨r, 0, none⟩)] w fun x w' => x = .returned (.int .u64 (uintR l p e).1) ∧ Rd w' r g (uintR l p e).2.1 (uintR l p e).2.2 l ∧ w.grownBy w' (some r) := by
  unfold uintR
  by_cases he : e = 0
  · subst he
    rw [if_neg (by simp)]
    by_cases hp : (num (l.drop p)).2.2 = 0
    · rw [if_pos hp]
      exact uint_yes w r g p l h hp
    · rw [if_neg hp]
      exact uint_no w r g p l h (by simp [hp])
  · rw [if_pos he]
    refine (uint_stuck w r g p e l h (by simp [he])).mono fun x w' hx => ⟨hx.1, ?_, ?_⟩
    · rw [hx.2]; exact h
    · rw [hx.2]; exact ⟨rfl, rfl, rfl, Nat.le_refl _, fun _ _ _ => rfl⟩
def wordR (l : List UInt8) (p : Nat) (e : Int) : Int × Nat × Int := if e ≠ 0 then (0, p, e) else if l.length < p + 8 then (0, p, 110) else (wideVal ((l.drop p).take 8) 8, p + 8, 0)
theorem word_st (w : World) (r g p : Nat) (e : Int) (l : List UInt8) (h : Rd w r g p e l) :
    Calls Tryz.prog 94 #[.pointer (some ⟨r, 0, none⟩)] w fun x w' => x = .returned (.int .u64 (wordR l p e).1) ∧ Rd w' r g (wordR l p e).2.1 (wordR l p e).2.2 l ∧ w.grownBy w' (some r) := by
  have hp := h.hp
  unfold wordR
  by_cases he : e = 0
  · subst he
    rw [if_neg (by simp)]
    by_cases h8 : l.length < p + 8
    · rw [if_pos h8]
      exact word_short w r g p (l.length - p) l h (by omega) (by omega)
    · rw [if_neg h8]
      exact word_yes w r g p (l.length - p) l h (by omega) (by omega)
  · rw [if_pos he]
    refine (word_stuck w r g p e l h (by simp [he])).mono fun x w' hx => ⟨hx.1, ?_, ?_⟩
    · rw [hx.2]; exact h
    · rw [hx.2]; exact ⟨rfl, rfl, rfl, Nat.le_refl _, fun _ _ _ => rfl⟩
def cutT (s : List UInt8) (most : Int) : ByteArray := ⟨((s.take (txt s most).2.1).drop (txt s most).1).toArray⟩
def textR (l : List UInt8) (p : Nat) (e most : Int) : ByteArray × Nat × Int := if e ≠ 0 then (⟨#[]⟩, p, e) else if (txt (l.drop p) most).2.2 = 0 then (cutT (l.drop p) most, p + (txt (l.drop p) most).2.1, 0) else (⟨#[]⟩, p, (txt (l.drop p) most).2.2)
theorem text_st (w : World) (r g p : Nat) (e most : Int) (l : List UInt8) (h : Rd w r g p e l) (hmost : most ≤ 9223372036854775807) :
    Calls Tryz.prog 93 #[.pointer (some ⟨r, 0, none⟩), .int .i64 most] w fun x w' => x = .returned (.string (textR l p e most).1) ∧ Rd w' r g (textR l p e most).2.1 (textR l p e most).2.2 l ∧ w.grownBy w' (some r) := by
  have hp := h.hp
  unfold textR
  by_cases he : e = 0
  · subst he
    rw [if_neg (by simp)]
    by_cases h8 : (txt (l.drop p) most).2.2 = 0
    · rw [if_pos h8]
      exact text_yes w r g p (l.length - p) most l h (by omega) hmost h8
    · rw [if_neg h8]
      exact text_no w r g p (l.length - p) most l h (by omega) hmost (by simp [h8])
  · rw [if_pos he]
    refine (text_stuck w r g p e most l h (by simp [he])).mono fun x w' hx => ⟨hx.1, ?_, ?_⟩
    · rw [hx.2]; exact h
    · rw [hx.2]; exact ⟨rfl, rfl, rfl, Nat.le_refl _, fun _ _ _ => rfl⟩
/-- the bounds of what is read -/
theorem byteR_fits (l : List UInt8) (p : Nat) (e : Int) : 0 ≤ (byteR l p e).1 ∧ (byteR l p e).1 ≤ 255 := by
  unfold byteR
  split
  · simp
  · split
    · have := (l.getD p 0).toNat_lt
      unfold bt
      simp only
      omega
    · simp
theorem uintR_fits (l : List UInt8) (p : Nat) (e : Int) : 0 ≤ (uintR l p e).1 ∧ (uintR l p e).1 ≤ 18446744073709551615 := by
  unfold uintR
  split
  · simp
  · split
    · exact num_fits _
    · simp

end Go.Proofs.YtncagdfbgpdhfaaGreat

/- Assertions of an object's type, as equations. -/
namespace Go.Proofs.YtncagdfbgpdhfaaGreat
open Go.RowKit

def zBlob : Value := .agg #[.slice none 0 0]
def zTree : Value := .agg #[.slice none 0 0]
def zCommit : Value := .agg #[.int .u64 0, .slice none 0 0, .string ⟨#[]⟩, .int .i64 0, .string ⟨#[]⟩]
theorem as_blob (v : Value) (xT : TypeId) (w : World) : (Instr.typeAssert (.iface 82 v) xT 82 true).run Tryz.prog w = .ok (.tuple #[v, .bool true]) w := by
  simp [Instr.typeAssert, run_underlying Tryz.underlying82, go_sem, Result.andThen]
theorem as_tree (v : Value) (xT : TypeId) (w : World) : (Instr.typeAssert (.iface 125 v) xT 125 true).run Tryz.prog w = .ok (.tuple #[v, .bool true]) w := by
  simp [Instr.typeAssert, run_underlying Tryz.underlying125, go_sem, Result.andThen]
theorem as_commit (v : Value) (xT : TypeId) (w : World) : (Instr.typeAssert (.iface 78 v) xT 78 true).run Tryz.prog w = .ok (.tuple #[v, .bool true]) w := by
  simp [Instr.typeAssert, run_underlying Tryz.underlying78, go_sem, Result.andThen]
theorem no_blob (t : TypeId) (ht : t ≠ 82) (v : Value) (xT : TypeId) (w : World) : (Instr.typeAssert (.iface t v) xT 82 true).run Tryz.prog w = .ok (.tuple #[zBlob, .bool false]) w := by
  simp [Instr.typeAssert, run_underlying Tryz.underlying82, go_sem, Result.andThen, ht]
  rfl
theorem no_tree (t : TypeId) (ht : t ≠ 125) (v : Value) (xT : TypeId) (w : World) : (Instr.typeAssert (.iface t v) xT 125 true).run Tryz.prog w = .ok (.tuple #[zTree, .bool false]) w := by
  simp [Instr.typeAssert, run_underlying Tryz.underlying125, go_sem, Result.andThen, ht]
  rfl
theorem no_commit (t : TypeId) (ht : t ≠ 78) (v : Value) (xT : TypeId) (w : World) : (Instr.typeAssert (.iface t v) xT 78 true).run Tryz.prog w = .ok (.tuple #[zCommit, .bool false]) w := by
  simp [Instr.typeAssert, run_underlying Tryz.underlying78, go_sem, Result.andThen, ht]
  rfl
theorem nil_blob (xT : TypeId) (w : World) : (Instr.typeAssert .nilIface xT 82 true).run Tryz.prog w = .ok (.tuple #[zBlob, .bool false]) w := by
  simp [Instr.typeAssert, run_underlying Tryz.underlying82, go_sem, Result.andThen]
  rfl
theorem nil_tree (xT : TypeId) (w : World) : (Instr.typeAssert .nilIface xT 125 true).run Tryz.prog w = .ok (.tuple #[zTree, .bool false]) w := by
  simp [Instr.typeAssert, run_underlying Tryz.underlying125, go_sem, Result.andThen]
  rfl
theorem nil_commit (xT : TypeId) (w : World) : (Instr.typeAssert .nilIface xT 78 true).run Tryz.prog w = .ok (.tuple #[zCommit, .bool false]) w := by
  simp [Instr.typeAssert, run_underlying Tryz.underlying78, go_sem, Result.andThen]
  rfl
theorem must_nil_tree (xT : TypeId) (w : World) : ∃ o, (Instr.typeAssert .nilIface xT 125 false).run Tryz.prog w = .halt (.panic (.iface 15 (.pointer (some ⟨w.heap.size, 0, none⟩)))) (w.alloc o) := by
  simp [Instr.typeAssert, run_underlying Tryz.underlying125, go_sem, Result.andThen, elemOf, run_underlying Tryz.underlying15]
  exact ⟨_, rfl⟩
theorem must_nil_commit (xT : TypeId) (w : World) : ∃ o, (Instr.typeAssert .nilIface xT 78 false).run Tryz.prog w = .halt (.panic (.iface 15 (.pointer (some ⟨w.heap.size, 0, none⟩)))) (w.alloc o) := by
  simp [Instr.typeAssert, run_underlying Tryz.underlying78, go_sem, Result.andThen, elemOf, run_underlying Tryz.underlying15]
  exact ⟨_, rfl⟩
end Go.Proofs.YtncagdfbgpdhfaaGreat

/- The walks of what tells an object's kind by its type. -/
namespace Go.Proofs.YtncagdfbgpdhfaaGreat
open Go.RowKit

end Go.Proofs.YtncagdfbgpdhfaaGreat

/- The walks of what puts an object's bytes together: the closure, and a blob's bytes. -/
namespace Go.Proofs.YtncagdfbgpdhfaaGreat
open Go.RowKit

theorem row_shape {w : World} {B n : Nat} {e : TypeId} {v : Value} {xs : List Value} (h : w.ownsRow B e 1 v n xs) : ∃ ad c, v = .slice ad n c ∧ n ≤ c ∧ (ad = none → n = 0 ∧ c = 0) := by
  rcases h.2 with ⟨rfl, rfl⟩ | ⟨g, cap, cur, rfl, _, _, hc, _⟩
  · exact ⟨none, 0, rfl, Nat.le_refl _, fun _ => ⟨rfl, rfl⟩⟩
  · exact ⟨_, _, rfl, hc, fun h => by cases h⟩
theorem row_bytes {w : World} {B n c : Nat} {ad : Option Addr} {l : List UInt8} (h : w.ownsRow B 5 1 (.slice ad n c) n (cellsOf l)) : Bytes w ad n l := by
  have hl : l.length = n := by have := h.1; rw [cellsOf_length] at this; omega
  rcases h.2 with ⟨hv, hn⟩ | ⟨g, cap, cur, hv, _, hg, hc, _, _, ht⟩
  · exact ⟨hl, fun h0 => by omega⟩
  · cases hv
    refine ⟨hl, fun _ => ⟨g, 0, rfl, fun j hj => ?_⟩⟩
    have e : (cur.toList.take (n * 1))[j]? = some (.int .u8 (bt l j)) := by rw [ht]; exact cellsOf_get l j (by omega)
    rw [List.getElem?_take_of_lt (by omega)] at e
    simp only [World.cell?, hg]
    show cur[0 + j]? = _
    rw [Nat.zero_add, ← Array.getElem?_toList]; exact e
theorem row_block {W : World} {base n : Nat} {e : TypeId} {v : Value} {xs : List Value} (h : W.ownsRow base e 1 v n xs) : ∀ r, v.ownBlock = some r → base ≤ r ∧ r < W.heap.size ∧ ∃ cur, W.heap[r]? = some (.cells cur e (0, 0)) := by
  intro r hr
  rcases h.2 with ⟨rfl, _⟩ | ⟨g, cap, cur, rfl, hb, hg, _⟩
  · cases hr
  · cases hr
    exact ⟨hb, (Array.getElem?_eq_some_iff.1 hg).1, cur, hg⟩
theorem run_app (w : World) (B : Nat) (hB : B ≤ w.heap.size) (ty : TypeId) (v : Value) (n : Nat) (xs : List Value) (hown : w.ownsRow B 5 1 v n xs) (ad : Option Addr) (m c : Nat) (l : List UInt8) (hb : Bytes w ad m l) (hnil : ad = none → m = 0 ∧ c = 0) (hm : n + m ≤ 140737488355328) :
    ∃ v' w', (Builtin.append_ #[80, 80] ty #[v, .slice ad m c]).run Tryz.prog w = .ok v' w' ∧ w'.ownsRow B 5 1 v' (n + m) (xs ++ cellsOf l) ∧ w.grownBy w' v.ownBlock ∧ (v'.ownBlock = v.ownBlock ∨ v'.ownBlock = some w.heap.size) := by
  obtain ⟨i0, hi, hz0, hz1, hz2⟩ := info_parts Tryz.info5
  cases ad with
  | none =>
    obtain ⟨rfl, rfl⟩ := hnil rfl
    have hl : l = [] := List.eq_nil_of_length_eq_zero hb.1
    subst hl
    exact ⟨v, w, run_append_owned_none (P := Tryz.prog) (w := w) B 80 ty 5 i0 1 Tryz.underlying80 hi v n xs hown, by simpa [cellsOf] using hown, ⟨rfl, rfl, rfl, Nat.le_refl _, fun _ _ _ => rfl⟩, .inl rfl⟩
  | some ad =>
    obtain ⟨v', w', h1, h2, h3, _, h5⟩ := run_append_own_at (P := Tryz.prog) w B 80 ty 5 i0 (.int .u8 0) 1 1 Tryz.underlying80 hi hz0 hz1 hz2 rfl (by omega) v n xs hown ad m c (cellsOf l) (by rw [cellsOf_length, hb.1]; omega) (by
      intro j u hj
      have hjl : j < l.length := by have := (List.getElem?_eq_some_iff.1 hj).1; rw [cellsOf_length] at this; exact this
      have hl := hb.1
      obtain ⟨b, off, hx', hc⟩ := hb.2 (by omega)
      obtain rfl := Option.some.inj hx'
      rw [cellsOf_get l j hjl] at hj
      rw [Addr.add_lit, hc j (by omega)]
      exact hj) (cellsOf_one l) (by unfold maxLen; omega) (by omega) hB
    exact ⟨v', w', h1, h2, h3, h5⟩
theorem wpList_app (w : World) (B : Nat) (hB : B ≤ w.heap.size) {ops : Array Oper} {rest : List Oper} {o : Oper} {a : Act} {Q : Exit → Act → World → Prop} (hgd : o.guard = none) (s x : Operand)
    (ho : o.op = .call { callee := .builtin .append, args := #[s, x], argTypes := #[80, 80] })
    (v : Value) (n : Nat) (xs : List Value) (hs : a.eval s = v) (hown : w.ownsRow B 5 1 v n xs) (ad : Option Addr) (m c : Nat) (l : List UInt8) (hx : a.eval x = .slice ad m c) (hb : Bytes w ad m l) (hnil : ad = none → m = 0 ∧ c = 0) (hm : n + m ≤ 140737488355328)
    (h : ∀ v' w', w'.ownsRow B 5 1 v' (n + m) (xs ++ cellsOf l) → w.grownBy w' v.ownBlock → (v'.ownBlock = v.ownBlock ∨ v'.ownBlock = some w.heap.size) → wpList Tryz.prog ops Q rest (a.put o.dst v') w') : wpList Tryz.prog ops Q (o :: rest) a w := by
  refine wpList_plain hgd fun K hK => ?_
  obtain ⟨v', w', hr, h2, h3, h4⟩ := run_app w B hB o.type v n xs hown ad m c l hb hnil hm
  unfold Oper.wp execOp
  simp only [ho, resolve, invoke, builtin, Sem.run_bind, Sem.run_pure, Result.andThen_ok, List.map_toArray, List.map_cons, List.map_nil, hs, hx, hr]
  exact hK _ _ (h v' w' h2 h3 h4)
theorem bytes_new (w : World) (l : List UInt8) (cs : Array Value) (h : cs = (cellsOf l).toArray) : Bytes (w.alloc (.cells cs 5)) (some ⟨w.heap.size, 0, none⟩) l.length l := by
  subst h
  refine ⟨rfl, fun _ => ⟨_, _, rfl, fun j hj => ?_⟩⟩
  simp only [World.cell?, World.alloc_heap_new]
  show (cellsOf l).toArray[0 + j]? = _
  rw [Nat.zero_add, List.getElem?_toArray]
  exact cellsOf_get l j hj

/-- the bytes put together so far lie in a row that the variable in block B holds -/
structure OOut (w0 : World) (B : Nat) (l : List UInt8) (W : World) : Prop where
  box : ∃ v, Boxed W B 80 v ∧ W.ownsRow w0.heap.size 5 1 v l.length (cellsOf l)
  bel : Below w0.heap.size w0 W
  le : w0.heap.size ≤ B
theorem OOut.below {w0 W W' : World} {B : Nat} {l : List UInt8} (h : OOut w0 B l W) (hb : Below W.heap.size W W') : OOut w0 B l W' := by
  obtain ⟨v, hv, ho⟩ := h.box
  exact ⟨⟨v, (hb.block B hv.lt).trans hv, ho.kept (row := none) ⟨hb.os, hb.tape, hb.output, hb.size, fun k hk _ => hb.block k hk⟩ (by cases v.ownBlock <;> simp)⟩, h.bel.trans (hb.mono h.bel.size), h.le⟩
theorem OOut.alloc {w0 W : World} {B : Nat} {l : List UInt8} (h : OOut w0 B l W) (o : Obj) : OOut w0 B l (W.alloc o) := h.below ((Below.refl _ _).alloc (Nat.le_refl _) _)

set_option maxRecDepth 20000 in
theorem put_any (w0 : World) (B : Nat) (l : List UInt8) (a : Option Addr) (n c : Nat) (m : List UInt8) (W : World) (h : OOut w0 B l W) (hb : Bytes W a n m) (hnil : a = none → n = 0 ∧ c = 0) (hm : l.length + n ≤ 140737488355328) :
    Calls Tryz.prog 103 #[.slice a n c, .pointer (some ⟨B, 0, none⟩)] W fun e W' => e = .returned (.tuple #[]) ∧ OOut w0 B (l ++ m) W' ∧ (∀ K t u, Boxed W K t u → t ≠ 5 → K ≠ B → Boxed W' K t u) := by
  obtain ⟨v, hv, ho⟩ := h.box
  have cv := hv.cell
  have hsz := h.bel.size
  have d1 : 80 ≠ 5 := by decide
  go_enter Tryz.func103, Tryz.ntmps103
  go_wp2_with (at_builtin; refine wpList_app _ w0.heap.size hsz rfl _ _ rfl v l.length _ rfl ho a n c m rfl hb hnil hm ?_; intro v' W2 ho2 hg2 _; have hv2 : Boxed W2 B 80 v := hv.kept hg2 (hv.not_row d1 ho); have c2 := hv2.cell; have f2 := hv2.frozen; obtain ⟨ad, cp, rfl, _⟩ := row_shape ho2)
  go_end0
  refine ⟨rfl, ⟨⟨_, hv2.set _, ?_⟩, ?_, h.le⟩, fun K t u hK ht hKB => ?_⟩
  · rw [List.length_append, hb.1, cellsOf_append]
    exact ho2.kept (grownBy_setCell' W2 B _) (.inr (hv2.not_row d1 ho2).symm)
  · exact (h.bel.grown hg2 hsz (fun k hk => (row_block ho k hk).1)).setCell (p := ⟨B, 0, none⟩) h.le _
  · exact (hK.kept hg2 (hK.not_row ht ho)).kept (grownBy_setCell' W2 B _) (fun e => hKB (Option.some.inj e))
end Go.Proofs.YtncagdfbgpdhfaaGreat
