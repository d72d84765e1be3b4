import Derived.Test.YtiafhbpklddlnaaC21
/- What a reader answers, whatever its state: one contract a call. -/
namespace Go.Proofs.Ytiafhbpklddlnaa
open Go.RowKit

attribute [local go_sem] Oper.semAt_some

def byteR (l : List UInt8) (p : Nat) (e : Int) : Int × Nat × Int := if e ≠ 0 then (0, p, e) else if p < l.length then (bt l p, p + 1, 0) else (0, p, 110)
def uintR (l : List UInt8) (p : Nat) (e : Int) : Int × Nat × Int := if e ≠ 0 then (0, p, e) else if (num (l.drop p)).2.2 = 0 then ((num (l.drop p)).1, p + (num (l.drop p)).2.1, 0) else (0, p, (num (l.drop p)).2.2)
theorem uint_st (w : World) (r g p : Nat) (e : Int) (l : List UInt8) (h : Rd w r g p e l) :
    Calls Try.prog 40 #[.pointer (some ⟨r, 0, none⟩)] w fun x w' => x = .returned (.int .u64 (uintR l p e).1) ∧ Rd w' r g (uintR l p e).2.1 (uintR l p e).2.2 l ∧ w.grownBy w' (some r) := by
  unfold uintR
  by_cases he : e = 0
  · subst he
    rw [if_neg (by simp)]
    by_cases hp : (num (l.drop p)).2.2 = 0
    · rw [if_pos hp]
      exact uint_yes w r g p l h hp
    · rw [if_neg hp]
      exact uint_no w r g p l h (by simp [hp])
  · rw [if_pos he]
    refine (uint_stuck w r g p e l h (by simp [he])).mono fun x w' hx => ⟨hx.1, ?_, ?_⟩
    · rw [hx.2]; exact h
    · rw [hx.2]; exact ⟨rfl, rfl, rfl, Nat.le_refl _, fun _ _ _ => rfl⟩
def wordR (l : List UInt8) (p : Nat) (e : Int) : Int × Nat × Int := if e ≠ 0 then (0, p, e) else if l.length < p + 8 then (0, p, 110) else (wideVal ((l.drop p).take 8) 8, p + 8, 0)
theorem word_st (w : World) (r g p : Nat) (e : Int) (l : List UInt8) (h : Rd w r g p e l) :
    Calls Try.prog 42 #[.pointer (some ⟨r, 0, none⟩)] w fun x w' => x = .returned (.int .u64 (wordR l p e).1) ∧ Rd w' r g (wordR l p e).2.1 (wordR l p e).2.2 l ∧ w.grownBy w' (some r) := by
  have hp := h.hp
  unfold wordR
  by_cases he : e = 0
  · subst he
    rw [if_neg (by simp)]
    by_cases h8 : l.length < p + 8
    · rw [if_pos h8]
      exact word_short w r g p (l.length - p) l h (by omega) (by omega)
    · rw [if_neg h8]
      exact word_yes w r g p (l.length - p) l h (by omega) (by omega)
  · rw [if_pos he]
    refine (word_stuck w r g p e l h (by simp [he])).mono fun x w' hx => ⟨hx.1, ?_, ?_⟩
    · rw [hx.2]; exact h
    · rw [hx.2]; exact ⟨rfl, rfl, rfl, Nat.le_refl _, fun _ _ _ => rfl⟩
def cutT (s : List UInt8) (most : Int) : ByteArray := ⟨((s.take (txt s most).2.1).drop (txt s most).1).toArray⟩
def textR (l : List UInt8) (p : Nat) (e most : Int) : ByteArray × Nat × Int := if e ≠ 0 then (⟨#[]⟩, p, e) else if (txt (l.drop p) most).2.2 = 0 then (cutT (l.drop p) most, p + (txt (l.drop p) most).2.1, 0) else (⟨#[]⟩, p, (txt (l.drop p) most).2.2)
theorem text_st (w : World) (r g p : Nat) (e most : Int) (l : List UInt8) (h : Rd w r g p e l) (hmost : most ≤ 9223372036854775807) :
    Calls Try.prog 41 #[.pointer (some ⟨r, 0, none⟩), .int .i64 most] w fun x w' => x = .returned (.string (textR l p e most).1) ∧ Rd w' r g (textR l p e most).2.1 (textR l p e most).2.2 l ∧ w.grownBy w' (some r) := by
  have hp := h.hp
  unfold textR
  by_cases he : e = 0
  · subst he
    rw [if_neg (by simp)]
    by_cases h8 : (txt (l.drop p) most).2.2 = 0
    · rw [if_pos h8]
      exact text_yes w r g p (l.length - p) most l h (by omega) hmost h8
    · rw [if_neg h8]
      exact text_no w r g p (l.length - p) most l h (by omega) hmost (by simp [h8])
  · rw [if_pos he]
    refine (text_stuck w r g p e most l h (by simp [he])).mono fun x w' hx => ⟨hx.1, ?_, ?_⟩
    · rw [hx.2]; exact h
    · rw [hx.2]; exact ⟨rfl, rfl, rfl, Nat.le_refl _, fun _ _ _ => rfl⟩
/-- the bounds of what is read -/
theorem byteR_fits (l : List UInt8) (p : Nat) (e : Int) : 0 ≤ (byteR l p e).1 ∧ (byteR l p e).1 ≤ 255 := by
  unfold byteR
  split
  · simp
  · split
    · have := (l.getD p 0).toNat_lt
      unfold bt
      simp only
      omega
    · simp
theorem uintR_fits (l : List UInt8) (p : Nat) (e : Int) : 0 ≤ (uintR l p e).1 ∧ (uintR l p e).1 ≤ 18446744073709551615 := by
  unfold uintR
  split
  · simp
  · split
    · exact num_fits _
    · simp

end Go.Proofs.Ytiafhbpklddlnaa
