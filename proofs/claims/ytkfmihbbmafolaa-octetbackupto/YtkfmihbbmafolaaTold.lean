/- The program's reads, of every kind, against what is asked of them; the walk of the statements' own comparison. -/
import Derived.Test.YtkfmihbbmafolaaText
import Derived.Test.YtkfmihbbmafolaaDoPlain
import Derived.Test.YtkfmihbbmafolaaSame
import Derived.Deep.RegionHeld3
namespace Go.Proofs.Ytkfmihbbmafolaa
open Go.RowKit

/-- the Reader behind a read -/
def RdPost (W : World) (r g : Nat) (L : List UInt8) (o : Out) (w' : World) : Prop := ∃ p, Rd w' r g p o.err L ∧ L.drop p = o.rest ∧ W.grownBy w' (some r)

theorem rdPost_same {w : World} {r g p : Nat} {x : Int} {L : List UInt8} (h : Rd w r g p x L) : RdPost w r g L (.no (L.drop p) x) w := ⟨p, h, rfl, World.grownBy.refl _ _⟩
theorem rdPost_no {w w' : World} {r g p : Nat} {x : Int} {L : List UInt8} (h : Rd w' r g p x L) (hg : w.grownBy w' (some r)) : RdPost w r g L (.no (L.drop p) x) w' := ⟨p, h, rfl, hg⟩

theorem byte_u (w : World) (r g p : Nat) (x m : Int) (L : List UInt8) (h : Rd w r g p x L) :
    Calls Try.prog 31 #[.pointer (some ⟨r, 0, none⟩)] w fun e w' => e = .returned (.int .u8 (outOf 0 m (L.drop p) x).num) ∧ RdPost w r g L (outOf 0 m (L.drop p) x) w' := by
  unfold outOf
  by_cases hx : x = 0
  · subst hx
    rw [if_neg (by simp), if_pos rfl]
    unfold outB
    have hp := h.hp
    by_cases hl : (L.drop p).length = 0
    · rw [if_pos hl]
      rw [List.length_drop] at hl
      exact (byte_short w r g p L h (by omega)).mono fun e w' ⟨h1, h2, h3⟩ => ⟨h1, rdPost_no h2 h3⟩
    · rw [if_neg hl]
      rw [List.length_drop] at hl
      refine (byte_yes w r g p L h (by omega)).mono fun e w' ⟨h1, h2, h3⟩ => ⟨?_, p + 1, h2, by simp, h3⟩
      rw [h1, bt_drop]
      rfl
  · rw [if_pos hx]
    exact (byte_stuck w r g p x L h (by simpa using hx)).mono fun e w' ⟨h1, h2⟩ => ⟨h1, by rw [h2]; exact rdPost_same h⟩

theorem uint_u (w : World) (r g p : Nat) (x m : Int) (L : List UInt8) (h : Rd w r g p x L) :
    Calls Try.prog 32 #[.pointer (some ⟨r, 0, none⟩)] w fun e w' => e = .returned (.int .u64 (outOf 1 m (L.drop p) x).num) ∧ RdPost w r g L (outOf 1 m (L.drop p) x) w' := by
  unfold outOf
  by_cases hx : x = 0
  · subst hx
    rw [if_neg (by simp), if_neg (by decide), if_pos rfl]
    unfold outU
    by_cases he : (num (L.drop p)).2.2 ≠ 0
    · rw [if_pos he]
      exact (uint_no w r g p L h (by simpa using he)).mono fun e w' ⟨h1, h2, h3⟩ => ⟨h1, rdPost_no h2 h3⟩
    · rw [if_neg he]
      exact (uint_yes w r g p L h (by simpa using he)).mono fun e w' ⟨h1, h2, h3⟩ => ⟨h1, _, h2, by simp, h3⟩
  · rw [if_pos hx]
    exact (uint_stuck w r g p x L h (by simpa using hx)).mono fun e w' ⟨h1, h2⟩ => ⟨h1, by rw [h2]; exact rdPost_same h⟩

theorem word_u (w : World) (r g p : Nat) (x m : Int) (L : List UInt8) (h : Rd w r g p x L) :
    Calls Try.prog 33 #[.pointer (some ⟨r, 0, none⟩)] w fun e w' => e = .returned (.int .u64 (outOf 2 m (L.drop p) x).num) ∧ RdPost w r g L (outOf 2 m (L.drop p) x) w' := by
  unfold outOf
  have hp := h.hp
  by_cases hx : x = 0
  · subst hx
    rw [if_neg (by simp), if_neg (by decide), if_neg (by decide), if_pos rfl]
    unfold outW
    by_cases h8 : (L.drop p).length < 8
    · rw [if_pos h8]
      rw [List.length_drop] at h8
      exact (word_short w r g p (L.length - p) L h (by omega) h8).mono fun e w' ⟨h1, h2, h3⟩ => ⟨h1, rdPost_no h2 h3⟩
    · rw [if_neg h8]
      rw [List.length_drop] at h8
      refine (word_yes w r g p (L.length - p) L h (by omega) h8).mono fun e w' ⟨h1, h2, h3⟩ => ⟨?_, _, h2, by simp, h3⟩
      rw [h1, wideVal_take _ 8 8 (Nat.le_refl _)]
  · rw [if_pos hx]
    exact (word_stuck w r g p x L h (by simpa using hx)).mono fun e w' ⟨h1, h2⟩ => ⟨h1, by rw [h2]; exact rdPost_same h⟩

theorem text_u (w : World) (r g p : Nat) (x m : Int) (L : List UInt8) (h : Rd w r g p x L) (hm : m ≤ 9223372036854775807) :
    Calls Try.prog 34 #[.pointer (some ⟨r, 0, none⟩), .int .i64 m] w fun e w' => e = .returned (.string ⟨(outOf 3 m (L.drop p) x).bytes.toArray⟩) ∧ RdPost w r g L (outOf 3 m (L.drop p) x) w' := by
  unfold outOf
  have hp := h.hp
  by_cases hx : x = 0
  · subst hx
    rw [if_neg (by simp), if_neg (by decide), if_neg (by decide), if_neg (by decide), if_pos rfl]
    unfold outT
    by_cases he : (txt (L.drop p) m).2.2 ≠ 0
    · rw [if_pos he]
      exact (text_no w r g p (L.length - p) m L h (by omega) hm (by simpa using he)).mono fun e w' ⟨h1, h2, h3⟩ => ⟨h1, rdPost_no h2 h3⟩
    · rw [if_neg he]
      exact (text_yes w r g p (L.length - p) m L h (by omega) hm (by simpa using he)).mono fun e w' ⟨h1, h2, h3⟩ => ⟨h1, _, h2, by simp, h3⟩
  · rw [if_pos hx]
    exact (text_stuck w r g p x m L h (by simpa using hx)).mono fun e w' ⟨h1, h2⟩ => ⟨h1, by rw [h2]; exact rdPost_same h⟩

theorem raw_u (w : World) (r g p : Nat) (x m : Int) (L : List UInt8) (h : Rd w r g p x L) (hL : L.length ≤ 281474976710656) :
    Calls Try.prog 35 #[.pointer (some ⟨r, 0, none⟩), .int .i64 m] w fun e w' => ∃ ad n c, e = .returned (.slice ad n c) ∧ Bytes w' ad n (outOf 4 m (L.drop p) x).bytes ∧ RdPost w r g L (outOf 4 m (L.drop p) x) w' := by
  unfold outOf
  have hp := h.hp
  by_cases hx : x = 0
  · subst hx
    rw [if_neg (by simp), if_neg (by decide), if_neg (by decide), if_neg (by decide), if_neg (by decide)]
    unfold outR
    by_cases h0 : m < 0
    · rw [if_pos h0]
      exact (raw_arg w r g p (L.length - p) m L h (by omega) h0).mono fun e w' ⟨h1, h2, h3⟩ => ⟨none, 0, 0, h1, ⟨rfl, fun h => by omega⟩, rdPost_no h2 h3⟩
    · rw [if_neg h0]
      by_cases h1 : ((L.drop p).length : Int) < m
      · rw [if_pos h1]
        rw [List.length_drop] at h1
        exact (raw_short w r g p (L.length - p) m L h (by omega) h1).mono fun e w' ⟨h1, h2, h3⟩ => ⟨none, 0, 0, h1, ⟨rfl, fun h => by omega⟩, rdPost_no h2 h3⟩
      · rw [if_neg h1]
        rw [List.length_drop] at h1
        obtain ⟨j, rfl⟩ := Int.eq_ofNat_of_zero_le (show 0 ≤ m by omega)
        rw [Int.toNat_natCast]
        exact (raw_yes w r g p (L.length - p) j L h (by omega) (by omega) (by omega)).mono fun e w' ⟨ad, c, h1, h2, h3, h4⟩ => ⟨ad, j, c, h1, h2, _, h3, by simp, h4⟩
  · rw [if_pos hx]
    exact (raw_stuck w r g p x m L h (by simpa using hx)).mono fun e w' ⟨h1, h2⟩ => ⟨none, 0, 0, h1, ⟨rfl, fun h => by omega⟩, by rw [h2]; exact rdPost_same h⟩

end Go.Proofs.Ytkfmihbbmafolaa
