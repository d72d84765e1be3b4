/- The document's Do, of every kind, in one. -/
import Derived.Test.YtkfmihbbmafolaaRefDoB
import Derived.Test.YtkfmihbbmafolaaRefDoC
namespace Go.Proofs.Ytkfmihbbmafolaa
open Go.RowKit

theorem do_any (b off n c : Nat) (x k m : Int) (l : List UInt8) (w : World) (hb : Bytes w (some ⟨b, off, none⟩) n l) (hc : n ≤ c) (hm : n ≤ maxLen) (hbw : b < w.heap.size) (hmost : m ≤ 9223372036854775807) (k0 : 0 ≤ k) (k4 : k ≤ 4) :
    Calls Try.prog 25 #[.agg #[.slice (some ⟨b, off, none⟩) n c, .int .i64 x], .agg #[.int .i64 k, .int .i64 m]] w (DoPost w b (outOf k m l x)) := by
  have hl := hb.1
  unfold outOf
  by_cases hx : x = 0
  · subst hx
    rw [if_neg (by simp)]
    have hk : k = 0 ∨ k = 1 ∨ k = 2 ∨ k = 3 ∨ k = 4 := by omega
    rcases hk with rfl | rfl | rfl | rfl | rfl
    · rw [if_pos rfl]
      unfold outB
      by_cases hn : n = 0
      · subst hn
        have : l = [] := List.eq_nil_of_length_eq_zero hl
        subst this
        rw [if_pos hl]
        exact do_byte_no b off c m w
      · rw [if_neg (by omega)]
        exact do_byte_yes b off n c m l w hb (by omega) hc
    · rw [if_neg (by decide), if_pos rfl]
      unfold outU
      obtain ⟨y, j, e, hnum⟩ : ∃ y j e, num l = (y, j, e) := ⟨_, _, _, rfl⟩
      rw [hnum]
      by_cases he : e = 0
      · subst he
        rw [if_neg (by simp)]
        exact do_uint_yes b off n c m y j l w hb hc hm hnum
      · rw [if_pos he]
        exact do_uint_no b off n c m e y j l w hb hc hm hnum (by simpa using he)
    · rw [if_neg (by decide), if_neg (by decide), if_pos rfl]
      unfold outW
      by_cases h8 : n < 8
      · rw [if_pos (by omega)]
        exact do_word_no b off n c m l w hb hc h8
      · rw [if_neg (by omega)]
        exact do_word_yes b off n c m l w hb hc (by omega)
    · rw [if_neg (by decide), if_neg (by decide), if_neg (by decide), if_pos rfl]
      unfold outT
      obtain ⟨f, t, e, ht⟩ : ∃ f t e, txt l m = (f, t, e) := ⟨_, _, _, rfl⟩
      rw [ht]
      by_cases he : e = 0
      · subst he
        rw [if_neg (by simp)]
        exact do_text b off n c m l _ w hb hbw (fun W hW => refText_yes b off n c f t m l W hW hc hm hmost ht)
      · rw [if_pos he]
        exact do_text b off n c m l _ w hb hbw (fun W hW => refText_no b off n c m e l W hW hc hm hmost (by rw [ht]) he)
    · rw [if_neg (by decide), if_neg (by decide), if_neg (by decide), if_neg (by decide)]
      unfold outR
      by_cases h0 : m < 0
      · rw [if_pos h0]
        exact do_raw_arg b off n c m l w hb hc h0
      · rw [if_neg h0, hl]
        by_cases h1 : (n : Int) < m
        · rw [if_pos h1]
          exact do_raw_short b off n c m l w hb hc h1
        · rw [if_neg h1]
          obtain ⟨j, rfl⟩ := Int.eq_ofNat_of_zero_le (show 0 ≤ m by omega)
          rw [Int.toNat_natCast]
          exact do_raw_yes b off n c j l w hb hc (by omega)
  · rw [if_pos hx]
    exact do_stuck b off n c x k m l w hb hc (by simpa using hx)

end Go.Proofs.Ytkfmihbbmafolaa
