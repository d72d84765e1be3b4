/- Which texts are right: the program's word and the document's. -/
import Derived.Test.YtdibdcbihleflaaOTree
namespace Go.Proofs.Ytdibdcbihleflaa
open Go.RowKit

/-- is the first rune of a text one that may not stand -/
def wrongAt (l : List UInt8) : Bool := decide ((dec l).1 = 0) || (decide ((dec l).1 = 65533) && !(fffd.isPrefixOf l))
def rightF : Nat → List UInt8 → Bool
  | 0, _ => true
  | n + 1, l => if l = [] then true else !(wrongAt l) && rightF n (l.drop (dec l).2)
def rightL (l : List UInt8) : Bool := rightF l.length l
theorem rightF_same : ∀ (n m : Nat) (l : List UInt8), l.length ≤ n → l.length ≤ m → rightF n l = rightF m l
  | 0, m, l, h, _ => by
    have : l = [] := List.eq_nil_of_length_eq_zero (by omega)
    subst this
    cases m <;> rfl
  | n + 1, 0, l, _, h => by
    have : l = [] := List.eq_nil_of_length_eq_zero (by omega)
    subst this
    rfl
  | n + 1, m + 1, l, h1, h2 => by
    unfold rightF
    split
    · rfl
    · rename_i hne
      have hd := dec_pos l
      have : (l.drop (dec l).2).length + 1 ≤ l.length := by
        have := dec_le l hne
        rw [List.length_drop]; omega
      rw [rightF_same n m _ (by omega) (by omega)]
theorem rightL_step (l : List UInt8) (h : l ≠ []) : rightL l = (!(wrongAt l) && rightL (l.drop (dec l).2)) := by
  unfold rightL
  obtain ⟨n, hn⟩ : ∃ n, l.length = n + 1 := ⟨l.length - 1, by have : l.length ≠ 0 := fun e => h (List.eq_nil_of_length_eq_zero e); omega⟩
  have hd := dec_pos l
  rw [hn]
  show (if l = [] then true else _) = _
  rw [if_neg h, rightF_same n (l.drop (dec l).2).length _ (by rw [List.length_drop]; omega) (Nat.le_refl _)]
theorem rightL_nil : rightL [] = true := rfl

theorem obroken_any (s : ByteArray) (w : World) (hs : s.size ≤ maxLen) :
    Calls Try.prog 107 #[.string s] w fun e w' => e = .returned (.bool (!(fffd.isPrefixOf (bs s)))) ∧ w' = w := by
  go_enter Try.func107, Try.ntmps107
  go_wp2_with (go_at_call 79; refine (has_prefix s ⟨#[239, 191, 189]⟩ w hs (by decide)).mono ?_; rintro e w' ⟨rfl, rfl⟩)
  go_ret
  exact ⟨rfl, rfl⟩
theorem fffd_any (s : ByteArray) (w : World) (hs : s.size ≤ maxLen) :
    Calls Try.prog 79 #[.string s, .string ⟨#[239, 191, 189]⟩] w fun e w' => e = .returned (.bool (fffd.isPrefixOf (bs s))) ∧ w' = w := has_prefix s ⟨#[239, 191, 189]⟩ w hs (by decide)

set_option maxRecDepth 20000 in
set_option maxHeartbeats 4000000 in
theorem right_any (s : ByteArray) (w : World) (hs : s.size ≤ maxLen) :
    Calls Try.prog 103 #[.string s] w fun e w' => e = .returned (.bool (rightL (bs s))) ∧ Below w.heap.size w w' := by
  have hs' : s.size ≤ 9223372036854775807 := by unfold maxLen at hs; omega
  obtain ⟨R, hR⟩ : ∃ R, R = rightL (bs s) := ⟨_, rfl⟩
  rw [← hR]
  go_enter Try.func103, Try.ntmps103
  go_wp2
  go_loopw [] (fun wr => ∃ p : Nat, p ≤ s.size ∧ wr = w.iter s p ∧ Hid (R = rightL ((bs s).drop p))) (fun wr => s.size - wr.iterPos w.heap.size)
  case atStart => exact ⟨0, Nat.zero_le _, rfl, by simpa [Hid] using hR⟩
  case round =>
    clear hR
    obtain ⟨p, hp, rfl, H⟩ := hrel
    by_cases hlt : p < s.size
    · obtain ⟨r, hr⟩ : ∃ r, r = (dec ((bs s).drop p)).1 := ⟨_, rfl⟩
      obtain ⟨d, hd⟩ : ∃ d, d = (dec ((bs s).drop p)).2 := ⟨_, rfl⟩
      have hne : (bs s).drop p ≠ [] := fun e => by
        have := congrArg List.length e
        rw [List.length_drop, bs_len] at this; simp at this; omega
      have hd1 : 1 ≤ d := by rw [hd]; exact dec_pos _
      have hd2 : p + d ≤ s.size := by
        have := dec_le _ hne
        rw [← hd, List.length_drop, bs_len] at this; omega
      have hdec : Utf8.decode s p = (r, d) := by rw [decode_dec, hr, hd]; rfl
      have hrle : r ≤ 2147483647 := by have := decode_le s p; rw [hdec] at this; exact this
      have hnx := run_next_any (P := Try.prog) w s p (h := hlt)
      rw [hdec] at hnx
      obtain ⟨W1, hW1⟩ : ∃ W1, W1 = w.iter s p := ⟨_, rfl⟩
      obtain ⟨W2, hW2⟩ : ∃ W2, W2 = w.iter s (p + d) := ⟨_, rfl⟩
      have HB2 : Hid (Below w.heap.size w W2) := by rw [hW2]; exact (Below.refl _ w).alloc (Nat.le_refl _) _
      have hm1 : Hid (s.size - W2.iterPos w.heap.size < s.size - W1.iterPos w.heap.size) := by
        have e1 := World.iterPos_iter w s p
        have e2 := World.iterPos_iter w s (p + d)
        rw [← hW1] at e1
        rw [← hW2] at e2
        show _ < _
        rw [e1, e2]; omega
      have HW2 : Hid (W2 = w.iter s (p + d)) := hW2
      rw [← hW1, ← hW2] at hnx
      rw [← hW1]
      have HBd : Hid (wrongAt ((bs s).drop p) = (decide (r = 0) || (decide (r = 65533) && !(fffd.isPrefixOf (bs (s.extract p s.size)))))) := by
        show _ = _
        rw [bs_extract, show (bs s).take s.size = bs s by rw [← bs_len]; exact List.take_length]
        simp only [wrongAt, ← hr]
      have hst := rightL_step _ hne
      rw [← hd, List.drop_drop] at hst
      have HStop : Hid (wrongAt ((bs s).drop p) = true → R = false) := fun hb => by rw [H.out, hst, hb]; rfl
      have HNext : Hid (wrongAt ((bs s).drop p) = false → ∃ p', p' ≤ s.size ∧ W2 = w.iter s p' ∧ Hid (R = rightL ((bs s).drop p'))) := fun hb => ⟨p + d, hd2, HW2.out, by
        show _ = _
        rw [H.out, hst, hb]; rfl⟩
      clear hne hd hr hdec hW1 hW2 hst HW2 H
      have i3 : (p : Int) ≤ s.size := by omega
      by_cases h00 : r = 0
      · subst h00
        simp only [show ((0 : Nat) : Int) = 0 from rfl] at hnx
        have e0 : R = false := HStop.out (by rw [HBd.out]; rfl)
        subst e0
        clear HBd HNext HStop
        go_wp2
        go_ret
        exact ⟨rfl, HB2.out⟩
      · have i0 : ((r : Int) == 0) = false := beq_eq_false_iff_ne.2 (by omega)
        by_cases h65 : r = 65533
        · subst h65
          simp only [show ((65533 : Nat) : Int) = 65533 from rfl] at hnx i0
          clear i0
          cases hfp : fffd.isPrefixOf (bs (s.extract p s.size)) with
          | false =>
            have e0 : R = false := HStop.out (by rw [HBd.out, hfp]; rfl)
            subst e0
            clear HBd HNext HStop
            go_wp2_with (go_at_call 107; refine (obroken_any (s.extract p s.size) _ (by simp; omega)).mono ?_; rintro e w' ⟨rfl, hw'⟩; rw [hfp]; subst hw')
            go_ret
            exact ⟨rfl, HB2.out⟩
          | true =>
            have HX := HNext.out (by rw [HBd.out, hfp]; rfl)
            have HXX : Hid (∃ p', p' ≤ s.size ∧ W2 = w.iter s p' ∧ Hid (R = rightL ((bs s).drop p'))) := HX
            clear HBd HNext HStop HX
            go_wp2_with (go_at_call 107; refine (obroken_any (s.extract p s.size) _ (by simp; omega)).mono ?_; rintro e w' ⟨rfl, hw'⟩; rw [hfp]; subst hw')
            go_roundw
            case rel => exact HXX.out
            case measure => exact hm1.out
        · have i5 : ((r : Int) == 65533) = false := beq_eq_false_iff_ne.2 (by omega)
          have HX := HNext.out (by rw [HBd.out]; simp [h00, h65])
          have HXX : Hid (∃ p', p' ≤ s.size ∧ W2 = w.iter s p' ∧ Hid (R = rightL ((bs s).drop p'))) := HX
          clear HBd HNext HStop HX
          have i6 : ¬ (r : Int) = 0 := by omega
          have i7 : ¬ (r : Int) = 65533 := by omega
          go_wp2
          go_roundw
          case rel => exact HXX.out
          case measure => exact hm1.out
    · obtain rfl : p = s.size := by omega
      have hnx := run_next_end (P := Try.prog) w s s.size (h := Nat.lt_irrefl _)
      obtain ⟨W1, hW1⟩ : ∃ W1, W1 = w.iter s s.size := ⟨_, rfl⟩
      have HB1 : Hid (Below w.heap.size w W1) := by rw [hW1]; exact (Below.refl _ w).alloc (Nat.le_refl _) _
      rw [← hW1] at hnx
      rw [← hW1]
      have e0 : R = true := by
        rw [H.out, List.drop_eq_nil_of_le (by rw [bs_len]; exact Nat.le_refl _)]; rfl
      subst e0
      clear hW1 H
      go_wp2
      go_ret
      exact ⟨rfl, HB1.out⟩

set_option maxRecDepth 20000 in
set_option maxHeartbeats 4000000 in
theorem refText2_any (s : ByteArray) (w : World) (hs : s.size ≤ maxLen) :
    Calls Try.prog 65 #[.string s] w fun e w' => e = .returned (.bool (rightL (bs s))) ∧ Below w.heap.size w w' := by
  have hs' : s.size ≤ 9223372036854775807 := by unfold maxLen at hs; omega
  obtain ⟨R, hR⟩ : ∃ R, R = rightL (bs s) := ⟨_, rfl⟩
  rw [← hR]
  go_enter Try.func65, Try.ntmps65
  go_wp2
  go_loopw [] (fun wr => ∃ p : Nat, p ≤ s.size ∧ wr = w.iter s p ∧ Hid (R = rightL ((bs s).drop p))) (fun wr => s.size - wr.iterPos w.heap.size)
  case atStart => exact ⟨0, Nat.zero_le _, rfl, by simpa [Hid] using hR⟩
  case round =>
    clear hR
    obtain ⟨p, hp, rfl, H⟩ := hrel
    by_cases hlt : p < s.size
    · obtain ⟨r, hr⟩ : ∃ r, r = (dec ((bs s).drop p)).1 := ⟨_, rfl⟩
      obtain ⟨d, hd⟩ : ∃ d, d = (dec ((bs s).drop p)).2 := ⟨_, rfl⟩
      have hne : (bs s).drop p ≠ [] := fun e => by
        have := congrArg List.length e
        rw [List.length_drop, bs_len] at this; simp at this; omega
      have hd1 : 1 ≤ d := by rw [hd]; exact dec_pos _
      have hd2 : p + d ≤ s.size := by
        have := dec_le _ hne
        rw [← hd, List.length_drop, bs_len] at this; omega
      have hdec : Utf8.decode s p = (r, d) := by rw [decode_dec, hr, hd]; rfl
      have hrle : r ≤ 2147483647 := by have := decode_le s p; rw [hdec] at this; exact this
      have hnx := run_next_any (P := Try.prog) w s p (h := hlt)
      rw [hdec] at hnx
      obtain ⟨W1, hW1⟩ : ∃ W1, W1 = w.iter s p := ⟨_, rfl⟩
      obtain ⟨W2, hW2⟩ : ∃ W2, W2 = w.iter s (p + d) := ⟨_, rfl⟩
      have HB2 : Hid (Below w.heap.size w W2) := by rw [hW2]; exact (Below.refl _ w).alloc (Nat.le_refl _) _
      have hm1 : Hid (s.size - W2.iterPos w.heap.size < s.size - W1.iterPos w.heap.size) := by
        have e1 := World.iterPos_iter w s p
        have e2 := World.iterPos_iter w s (p + d)
        rw [← hW1] at e1
        rw [← hW2] at e2
        show _ < _
        rw [e1, e2]; omega
      have HW2 : Hid (W2 = w.iter s (p + d)) := hW2
      rw [← hW1, ← hW2] at hnx
      rw [← hW1]
      have HBd : Hid (wrongAt ((bs s).drop p) = (decide (r = 0) || (decide (r = 65533) && !(fffd.isPrefixOf (bs (s.extract p s.size)))))) := by
        show _ = _
        rw [bs_extract, show (bs s).take s.size = bs s by rw [← bs_len]; exact List.take_length]
        simp only [wrongAt, ← hr]
      have hst := rightL_step _ hne
      rw [← hd, List.drop_drop] at hst
      have HStop : Hid (wrongAt ((bs s).drop p) = true → R = false) := fun hb => by rw [H.out, hst, hb]; rfl
      have HNext : Hid (wrongAt ((bs s).drop p) = false → ∃ p', p' ≤ s.size ∧ W2 = w.iter s p' ∧ Hid (R = rightL ((bs s).drop p'))) := fun hb => ⟨p + d, hd2, HW2.out, by
        show _ = _
        rw [H.out, hst, hb]; rfl⟩
      clear hne hd hr hdec hW1 hW2 hst HW2 H
      have i3 : (p : Int) ≤ s.size := by omega
      by_cases h00 : r = 0
      · subst h00
        simp only [show ((0 : Nat) : Int) = 0 from rfl] at hnx
        have e0 : R = false := HStop.out (by rw [HBd.out]; rfl)
        subst e0
        clear HBd HNext HStop
        go_wp2
        go_ret
        exact ⟨rfl, HB2.out⟩
      · have i0 : ((r : Int) == 0) = false := beq_eq_false_iff_ne.2 (by omega)
        by_cases h65 : r = 65533
        · subst h65
          simp only [show ((65533 : Nat) : Int) = 65533 from rfl] at hnx i0
          clear i0
          cases hfp : fffd.isPrefixOf (bs (s.extract p s.size)) with
          | false =>
            have e0 : R = false := HStop.out (by rw [HBd.out, hfp]; rfl)
            subst e0
            clear HBd HNext HStop
            go_wp2_with (go_at_call 79; refine (fffd_any (s.extract p s.size) _ (by simp; omega)).mono ?_; rintro e w' ⟨rfl, hw'⟩; rw [hfp]; subst hw')
            go_ret
            exact ⟨rfl, HB2.out⟩
          | true =>
            have HX := HNext.out (by rw [HBd.out, hfp]; rfl)
            have HXX : Hid (∃ p', p' ≤ s.size ∧ W2 = w.iter s p' ∧ Hid (R = rightL ((bs s).drop p'))) := HX
            clear HBd HNext HStop HX
            go_wp2_with (go_at_call 79; refine (fffd_any (s.extract p s.size) _ (by simp; omega)).mono ?_; rintro e w' ⟨rfl, hw'⟩; rw [hfp]; subst hw')
            go_roundw
            case rel => exact HXX.out
            case measure => exact hm1.out
        · have i5 : ((r : Int) == 65533) = false := beq_eq_false_iff_ne.2 (by omega)
          have HX := HNext.out (by rw [HBd.out]; simp [h00, h65])
          have HXX : Hid (∃ p', p' ≤ s.size ∧ W2 = w.iter s p' ∧ Hid (R = rightL ((bs s).drop p'))) := HX
          clear HBd HNext HStop HX
          have i6 : ¬ (r : Int) = 0 := by omega
          have i7 : ¬ (r : Int) = 65533 := by omega
          go_wp2
          go_roundw
          case rel => exact HXX.out
          case measure => exact hm1.out
    · obtain rfl : p = s.size := by omega
      have hnx := run_next_end (P := Try.prog) w s s.size (h := Nat.lt_irrefl _)
      obtain ⟨W1, hW1⟩ : ∃ W1, W1 = w.iter s s.size := ⟨_, rfl⟩
      have HB1 : Hid (Below w.heap.size w W1) := by rw [hW1]; exact (Below.refl _ w).alloc (Nat.le_refl _) _
      rw [← hW1] at hnx
      rw [← hW1]
      have e0 : R = true := by
        rw [H.out, List.drop_eq_nil_of_le (by rw [bs_len]; exact Nat.le_refl _)]; rfl
      subst e0
      clear hW1 H
      go_wp2
      go_ret
      exact ⟨rfl, HB1.out⟩
end Go.Proofs.Ytdibdcbihleflaa
