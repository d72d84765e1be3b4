/- The walks of a Reader's Word, Raw and Text. -/
import Derived.Test.YtdibdcbihleflaaUint
import Derived.Test.YtdibdcbihleflaaWordPlain
import Derived.Test.YtdibdcbihleflaaStr
namespace Go.Proofs.Ytdibdcbihleflaa
open Go.RowKit

set_option maxHeartbeats 400000 in
theorem wideForm_any (a : Option Addr) (n cap : Nat) (l : List UInt8) (w : World) (hb : Bytes w a n l) (hm : n ≤ 8) :
    Calls Try.prog 99 #[.slice a n cap] w fun e w' => e = .returned (.int .u64 (wideVal l n)) ∧ w' = w := by
  obtain ⟨hl, hc⟩ := hb
  go_enter Try.func99, Try.ntmps99
  go_wp2
  go_loop [3, 8] (fun h i => ∃ k : Nat, k ≤ n ∧ i = .int .i64 k ∧ h = .int .u64 (wideVal l k)) (fun _ i => n - (intOf i).toNat)
  case atStart => exact ⟨0, Nat.zero_le _, rfl, rfl⟩
  case round =>
    obtain ⟨k, hk, rfl, rfl⟩ := hrel
    by_cases hlt : k < n
    · obtain ⟨b, off, rfl, hcell⟩ := hc (by omega)
      have hck := hcell k hlt
      have b0 := bt_lo l k
      have b1 := bt_hi l k
      have h0 := wideVal_lo l k
      have h1 := wideVal_7 l k (by omega)
      have HS : Hid (bits BinOp.or IntKind.u64 (wideVal l k * 256) (bt l k) = wideVal l (k + 1)) := by rw [shl8 _ _ h0 h1 b0 b1]; rfl
      clear hcell hc
      go_wp2
      go_round
      case rel => exact ⟨k + 1, by omega, by go_num, by rw [HS.out]⟩
      case measure => simp [intOf]; omega
    · go_wp2
      go_ret
      obtain rfl : k = n := by omega
      exact ⟨rfl, rfl⟩

theorem word_stuck (w : World) (r g p : Nat) (x : Int) (l : List UInt8) (h : Rd w r g p x l) (hx : (x != 0) = true) :
    Calls Try.prog 85 #[.pointer (some ⟨r, 0, none⟩)] w fun e w' => e = .returned (.int .u64 0) ∧ w' = w := by
  go_enter Try.func85, Try.ntmps85
  go_wp2_with fail
  refine (take_stuck _ r g p x _ l h hx).mono ?_
  rintro e w1 ⟨rfl, rfl⟩
  go_wp2
  go_ret
  exact ⟨rfl, rfl⟩

theorem word_short (w : World) (r g p m : Nat) (l : List UInt8) (h : Rd w r g p 0 l) (hm : l.length = p + m) (h8 : m < 8) :
    Calls Try.prog 85 #[.pointer (some ⟨r, 0, none⟩)] w fun e w' => e = .returned (.int .u64 0) ∧ Rd w' r g p 110 l ∧ w.grownBy w' (some r) := by
  have Hm : Hid (l.length = p + m) := hm
  clear hm
  go_enter Try.func85, Try.ntmps85
  go_wp2_with fail
  refine (take_short _ r g p m _ l h Hm.out (by omega)).mono ?_
  rintro e w1 ⟨rfl, hr, hg⟩
  go_wp2
  go_ret
  exact ⟨rfl, hr, hg⟩

theorem word_yes (w : World) (r g p m : Nat) (l : List UInt8) (h : Rd w r g p 0 l) (hm : l.length = p + m) (h8 : ¬ m < 8) :
    Calls Try.prog 85 #[.pointer (some ⟨r, 0, none⟩)] w fun e w' => e = .returned (.int .u64 (wideVal ((l.drop p).take 8) 8)) ∧ Rd w' r g (p + 8) 0 l ∧ w.grownBy w' (some r) := by
  have Hm : Hid (l.length = p + m) := hm
  clear hm
  go_enter Try.func85, Try.ntmps85
  go_wp2_with fail
  refine (take_yes _ r g p m 8 l h Hm.out (by omega)).mono ?_
  rintro e w1 ⟨a, c, rfl, hb, hr, hg⟩
  go_wp2_with fail
  refine (wideForm_any a 8 c _ _ hb (by omega)).mono ?_
  rintro e w2 ⟨rfl, rfl⟩
  go_wp2
  go_ret
  exact ⟨rfl, hr, hg⟩

theorem raw_stuck (w : World) (r g p : Nat) (x n : Int) (l : List UInt8) (h : Rd w r g p x l) (hx : (x != 0) = true) :
    Calls Try.prog 68 #[.pointer (some ⟨r, 0, none⟩), .int .i64 n] w fun e w' => e = .returned (.slice none 0 0) ∧ w' = w := by
  go_enter Try.func68, Try.ntmps68
  go_wp2_with fail
  refine (take_stuck _ r g p x _ l h hx).mono ?_
  rintro e w1 ⟨rfl, rfl⟩
  go_wp2
  go_ret
  exact ⟨rfl, rfl⟩

theorem raw_arg (w : World) (r g p m : Nat) (n : Int) (l : List UInt8) (h : Rd w r g p 0 l) (hm : l.length = p + m) (hn : n < 0) :
    Calls Try.prog 68 #[.pointer (some ⟨r, 0, none⟩), .int .i64 n] w fun e w' => e = .returned (.slice none 0 0) ∧ Rd w' r g p 2 l ∧ w.grownBy w' (some r) := by
  have Hm : Hid (l.length = p + m) := hm
  clear hm
  go_enter Try.func68, Try.ntmps68
  go_wp2_with fail
  refine (take_arg _ r g p m _ l h Hm.out hn).mono ?_
  rintro e w1 ⟨rfl, hr, hg⟩
  go_wp2
  go_ret
  exact ⟨rfl, hr, hg⟩

theorem raw_short (w : World) (r g p m : Nat) (n : Int) (l : List UInt8) (h : Rd w r g p 0 l) (hm : l.length = p + m) (hn : (m : Int) < n) :
    Calls Try.prog 68 #[.pointer (some ⟨r, 0, none⟩), .int .i64 n] w fun e w' => e = .returned (.slice none 0 0) ∧ Rd w' r g p 110 l ∧ w.grownBy w' (some r) := by
  have Hm : Hid (l.length = p + m) := hm
  clear hm
  go_enter Try.func68, Try.ntmps68
  go_wp2_with fail
  refine (take_short _ r g p m _ l h Hm.out hn).mono ?_
  rintro e w1 ⟨rfl, hr, hg⟩
  go_wp2
  go_ret
  exact ⟨rfl, hr, hg⟩

theorem raw_yes (w : World) (r g p m n : Nat) (l : List UInt8) (h : Rd w r g p 0 l) (hm : l.length = p + m) (hn : n ≤ m) (hlim : m ≤ 281474976710656) :
    Calls Try.prog 68 #[.pointer (some ⟨r, 0, none⟩), .int .i64 n] w fun e w' => ∃ ad c, e = .returned (.slice ad n c) ∧ Bytes w' ad n ((l.drop p).take n) ∧ Rd w' r g (p + n) 0 l ∧ w.grownBy w' (some r) := by
  have Hm : Hid (l.length = p + m) := hm
  clear hm
  go_enter Try.func68, Try.ntmps68
  go_wp2_with fail
  refine (take_yes _ r g p m n l h Hm.out hn).mono ?_
  rintro e w1 ⟨a, c, rfl, hb, hr, hg⟩
  go_wp2_with fail
  refine (withRoom_any a n c 0 _ _ hb (by omega)).mono ?_
  rintro e w2 ⟨rfl, hown, hg2⟩
  go_wp2
  go_ret
  refine ⟨_, _, rfl, (ownsRow_bytes hown).1, hr.kept hg2 (by simp) (by simp), grownBy_trans hg (grownBy_wide hg2)⟩

end Go.Proofs.Ytdibdcbihleflaa
