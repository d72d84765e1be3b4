import Derived.Test.YtgcbbnmjomhngaaK05
import Derived.Test.YtgcbbnmjomhngaaK01
import Derived.Test.YtgcbbnmjomhngaaK06
import Derived.Test.YtgcbbnmjomhngaaK02
/- The walk of the program's reading of a short form. -/
namespace Go.Proofs.Ytgcbbnmjomhngaa
open Go.RowKit

theorem ret3_of {p : Int × Nat × Int} {x : Int} {y : Int} {z : Int} (h : p = (x, y.toNat, z)) (h0 : 0 ≤ y) :
    Ending.returned (.tuple #[.int .u64 x, .int .i64 y, .int .i64 z]) = .returned (.tuple #[.int .u64 p.1, .int .i64 p.2.1, .int .i64 p.2.2]) := by
  rw [h]
  simp [Int.toNat_of_nonneg h0]

set_option maxHeartbeats 1000000 in
theorem shortForm_any (a : Option Addr) (n cap : Nat) (l : List UInt8) (w : World) (hb : Bytes w a n l) (hm : n ≤ maxLen) :
    Calls Try.prog 69 #[.slice a n cap] w fun e w' => e = .returned (.tuple #[.int .u64 (num l).1, .int .i64 (num l).2.1, .int .i64 (num l).2.2]) ∧ w' = w := by
  unfold maxLen at hm
  obtain ⟨hl, hc⟩ := hb
  have HN : Hid (num l = numFrom l (n - 0) 0) := by show num l = _; unfold num; rw [hl]; rfl
  go_enter Try.func69, Try.ntmps69
  go_wp2
  go_loop [5, 10] (fun x i => ∃ k : Nat, k ≤ n ∧ k ≤ 9 ∧ i = .int .i64 k ∧ x = .int .u64 (accTo l k) ∧ Hid (num l = numFrom l (n - k) k)) (fun _ i => n - (intOf i).toNat)
  case atStart => exact ⟨0, Nat.zero_le _, by omega, rfl, rfl, HN⟩
  case round =>
    clear HN
    obtain ⟨k, hk, hk9, rfl, rfl, HN⟩ := hrel
    by_cases hlt : k < n
    · obtain ⟨b, off, rfl, hcell⟩ := hc (by omega)
      have hck := hcell k hlt
      have b0 := bt_lo l k
      have b1 := bt_hi l k
      have h0 := accTo_lo l k
      clear hcell hc hl
      have HS : Hid (k ≤ 9 → (k = 9 → bt l k ≤ 1) → bits BinOp.or IntKind.u64 (accTo l k) (IntKind.u64.wrap (IntKind.u64.wrap (bits BinOp.andNot IntKind.u8 (bt l k) 128) * 2 ^ (7 * k))) = accTo l (k + 1)) :=
        fun h1 h2 => by rw [or_step l (bt l k) k b0 b1 h1 h2, accTo_succ]
      have NB : Hid (brokenB k (bt l k) = true → num l = (0, 0, 8)) := num_broken HN.out hlt
      have NL : Hid (brokenB k (bt l k) = false → bt l k < 128 → num l = (accTo l (k + 1), k + 1, 0)) := num_last HN.out hlt
      have NN : Hid (brokenB k (bt l k) = false → ¬ bt l k < 128 → num l = numFrom l (n - (k + 1)) (k + 1)) := num_next HN.out hlt
      clear HN
      generalize bt l k = c at *
      by_cases h9 : k = 9
      · subst h9
        by_cases hc1 : 1 < c
        · go_wp2
          go_ret3
          exact ⟨ret3_of (NB.out (by simp [brokenB]; omega)) (by omega), rfl⟩
        · by_cases hz : c = 0
          · subst hz
            go_wp2
            go_ret3
            exact ⟨ret3_of (NB.out (by simp [brokenB])) (by omega), rfl⟩
          · have cz : (c == 0) = false := by simpa using hz
            have h8 : c < 128 := by omega
            go_wp2
            go_ret3
            have hs := HS.out (by omega) (fun _ => by omega)
            rw [show (2 : Int) ^ (7 * 9) = 9223372036854775808 from by decide] at hs
            exact ⟨ret3_of (by rw [NL.out (by simp [brokenB]; omega) h8, hs]; rfl) (by omega), rfl⟩
      · have k9 : ((k : Int) == 9) = false := by simp; omega
        by_cases hk0 : ¬ 0 < k
        · by_cases h8 : c < 128
          · go_wp2
            go_ret3
            exact ⟨ret3_of (by rw [NL.out (by simp [brokenB]; omega) h8, HS.out (by omega) (by omega)]; congr 2) (by omega), rfl⟩
          · go_wp2
            go_round
            case rel => exact ⟨k + 1, by omega, by omega, by go_num, by rw [HS.out (by omega) (by omega)], NN.out (by simp [brokenB]; omega) h8⟩
            case measure => simp [intOf]; omega
        · have kp : 0 < k := by omega
          by_cases hz : c = 0
          · subst hz
            go_wp2
            go_ret3
            exact ⟨ret3_of (NB.out (by simp [brokenB]; omega)) (by omega), rfl⟩
          · have cz : (c == 0) = false := by simpa using hz
            by_cases h8 : c < 128
            · go_wp2
              go_ret3
              exact ⟨ret3_of (by rw [NL.out (by simp [brokenB]; omega) h8, HS.out (by omega) (by omega)]; congr 2) (by omega), rfl⟩
            · go_wp2
              go_round
              case rel => exact ⟨k + 1, by omega, by omega, by go_num, by rw [HS.out (by omega) (by omega)], NN.out (by simp [brokenB]; omega) h8⟩
              case measure => simp [intOf]; omega
    · have NS := num_short HN.out hlt
      clear HN
      have NS' : Hid (num l = (0, 0, 110)) := NS
      clear NS
      go_wp2
      go_ret3
      exact ⟨ret3_of (by rw [NS'.out]; rfl) (by omega), rfl⟩

end Go.Proofs.Ytgcbbnmjomhngaa

/- The walks of a Reader's Uint. -/
namespace Go.Proofs.Ytgcbbnmjomhngaa
open Go.RowKit

theorem uint_nil (w : World) : Calls Try.prog 48 #[.pointer none] w fun e w' => e = .returned (.int .u64 0) ∧ w' = w := by
  go_enter Try.func48, Try.ntmps48
  go_wp2_with fail
  refine (stuck_nil _).mono ?_
  rintro e w1 ⟨rfl, rfl⟩
  go_wp2
  go_ret
  exact ⟨rfl, rfl⟩

theorem uint_stuck (w : World) (r g p : Nat) (x : Int) (l : List UInt8) (h : Rd w r g p x l) (hx : (x != 0) = true) :
    Calls Try.prog 48 #[.pointer (some ⟨r, 0, none⟩)] w fun e w' => e = .returned (.int .u64 0) ∧ w' = w := by
  go_enter Try.func48, Try.ntmps48
  go_wp2_with fail
  refine (stuck_yes _ r x h.c1 hx).mono ?_
  rintro e w1 ⟨rfl, rfl⟩
  go_wp2
  go_ret
  exact ⟨rfl, rfl⟩

set_option maxHeartbeats 400000 in
theorem uint_yes (w : World) (r g p : Nat) (l : List UInt8) (h : Rd w r g p 0 l) (hn : (num (l.drop p)).2.2 = 0) :
    Calls Try.prog 48 #[.pointer (some ⟨r, 0, none⟩)] w fun e w' => e = .returned (.int .u64 (num (l.drop p)).1) ∧ Rd w' r g (p + (num (l.drop p)).2.1) 0 l ∧ w.grownBy w' (some r) := by
  have hp := h.hp
  have hl := h.hl
  have hle := num_le (l.drop p)
  rw [List.length_drop] at hle
  unfold maxLen at hl
  obtain ⟨m, hm⟩ : ∃ m, l.length = p + m := ⟨l.length - p, by omega⟩
  obtain ⟨x, k, e, hnum⟩ : ∃ x k e, num (l.drop p) = (x, k, e) := ⟨_, _, _, rfl⟩
  have hkm : k ≤ m := by rw [hnum] at hle; simp only at hle; omega
  have Hm : Hid (l.length = p + m) := hm
  have Hnum : Hid (num (l.drop p) = (x, k, e)) := hnum
  have hpm : p + m ≤ 9223372036854775807 := by omega
  rw [hnum] at hn
  simp only at hn
  subst hn
  rw [hnum]
  clear hm hnum hle hl hp
  go_enter Try.func48, Try.ntmps48
  go_wp2_with fail
  refine (stuck_no _ r h.c1).mono ?_
  rintro e w1 ⟨rfl, rfl⟩
  go_wp2_with fail
  refine (rest_any _ r g p m 0 l h Hm.out).mono ?_
  rintro e w2 ⟨q, j, rfl, hb, rfl⟩
  go_wp2_with fail
  refine (shortForm_any _ m m (l.drop p) _ (hb.drewN j) (by unfold maxLen; omega)).mono ?_
  rw [Hnum.out]
  rintro e w3 ⟨rfl, rfl⟩
  go_wp2_with fail
  refine (settle_yes _ r p k (h.drewN j).c0 (h.drewN j).f0 (by omega) (by omega) (by omega)).mono ?_
  rintro e w4 ⟨rfl, rfl⟩
  go_wp2
  go_ret
  exact ⟨rfl, (h.drewN j).setAt (p + k) (by have := Hm.out; omega), grownBy_trans (grownBy_drewN _ _ _) (grownBy_setCell _ _ _ _)⟩

set_option maxHeartbeats 400000 in
theorem uint_no (w : World) (r g p : Nat) (l : List UInt8) (h : Rd w r g p 0 l) (hn : ((num (l.drop p)).2.2 != 0) = true) :
    Calls Try.prog 48 #[.pointer (some ⟨r, 0, none⟩)] w fun e w' => e = .returned (.int .u64 0) ∧ Rd w' r g p (num (l.drop p)).2.2 l ∧ w.grownBy w' (some r) := by
  have hp := h.hp
  have hl := h.hl
  unfold maxLen at hl
  obtain ⟨m, hm⟩ : ∃ m, l.length = p + m := ⟨l.length - p, by omega⟩
  obtain ⟨x, k, e, hnum⟩ : ∃ x k e, num (l.drop p) = (x, k, e) := ⟨_, _, _, rfl⟩
  have Hm : Hid (l.length = p + m) := hm
  have Hnum : Hid (num (l.drop p) = (x, k, e)) := hnum
  have hpm : p + m ≤ 9223372036854775807 := by omega
  rw [hnum] at hn
  simp only at hn
  rw [hnum]
  clear hm hnum hl hp
  go_enter Try.func48, Try.ntmps48
  go_wp2_with fail
  refine (stuck_no _ r h.c1).mono ?_
  rintro e w1 ⟨rfl, rfl⟩
  go_wp2_with fail
  refine (rest_any _ r g p m 0 l h Hm.out).mono ?_
  rintro e w2 ⟨q, j, rfl, hb, rfl⟩
  go_wp2_with fail
  refine (shortForm_any _ m m (l.drop p) _ (hb.drewN j) (by unfold maxLen; omega)).mono ?_
  rw [Hnum.out]
  rintro e w3 ⟨rfl, rfl⟩
  go_wp2_with fail
  refine (settle_no _ r k _ _ (h.drewN j).c1 (h.drewN j).f1 hn).mono ?_
  rintro e w4 ⟨rfl, rfl⟩
  go_wp2
  go_ret
  exact ⟨rfl, (h.drewN j).setErr _, grownBy_trans (grownBy_drewN _ _ _) (grownBy_setCell _ _ _ _)⟩

end Go.Proofs.Ytgcbbnmjomhngaa

/- The walks of a Reader's Word, Raw and Text. -/
namespace Go.Proofs.Ytgcbbnmjomhngaa
open Go.RowKit

set_option maxHeartbeats 400000 in
theorem wideForm_any (a : Option Addr) (n cap : Nat) (l : List UInt8) (w : World) (hb : Bytes w a n l) (hm : n ≤ 8) :
    Calls Try.prog 73 #[.slice a n cap] w fun e w' => e = .returned (.int .u64 (wideVal l n)) ∧ w' = w := by
  obtain ⟨hl, hc⟩ := hb
  go_enter Try.func73, Try.ntmps73
  go_wp2
  go_loop [3, 8] (fun h i => ∃ k : Nat, k ≤ n ∧ i = .int .i64 k ∧ h = .int .u64 (wideVal l k)) (fun _ i => n - (intOf i).toNat)
  case atStart => exact ⟨0, Nat.zero_le _, rfl, rfl⟩
  case round =>
    obtain ⟨k, hk, rfl, rfl⟩ := hrel
    by_cases hlt : k < n
    · obtain ⟨b, off, rfl, hcell⟩ := hc (by omega)
      have hck := hcell k hlt
      have b0 := bt_lo l k
      have b1 := bt_hi l k
      have h0 := wideVal_lo l k
      have h1 := wideVal_7 l k (by omega)
      have HS : Hid (bits BinOp.or IntKind.u64 (wideVal l k * 256) (bt l k) = wideVal l (k + 1)) := by rw [shl8 _ _ h0 h1 b0 b1]; rfl
      clear hcell hc
      go_wp2
      go_round
      case rel => exact ⟨k + 1, by omega, by go_num, by rw [HS.out]⟩
      case measure => simp [intOf]; omega
    · go_wp2
      go_ret
      obtain rfl : k = n := by omega
      exact ⟨rfl, rfl⟩

theorem word_stuck (w : World) (r g p : Nat) (x : Int) (l : List UInt8) (h : Rd w r g p x l) (hx : (x != 0) = true) :
    Calls Try.prog 51 #[.pointer (some ⟨r, 0, none⟩)] w fun e w' => e = .returned (.int .u64 0) ∧ w' = w := by
  go_enter Try.func51, Try.ntmps51
  go_wp2_with fail
  refine (take_stuck _ r g p x _ l h hx).mono ?_
  rintro e w1 ⟨rfl, rfl⟩
  go_wp2
  go_ret
  exact ⟨rfl, rfl⟩

theorem word_short (w : World) (r g p m : Nat) (l : List UInt8) (h : Rd w r g p 0 l) (hm : l.length = p + m) (h8 : m < 8) :
    Calls Try.prog 51 #[.pointer (some ⟨r, 0, none⟩)] w fun e w' => e = .returned (.int .u64 0) ∧ Rd w' r g p 110 l ∧ w.grownBy w' (some r) := by
  have Hm : Hid (l.length = p + m) := hm
  clear hm
  go_enter Try.func51, Try.ntmps51
  go_wp2_with fail
  refine (take_short _ r g p m _ l h Hm.out (by omega)).mono ?_
  rintro e w1 ⟨rfl, hr, hg⟩
  go_wp2
  go_ret
  exact ⟨rfl, hr, hg⟩

theorem word_yes (w : World) (r g p m : Nat) (l : List UInt8) (h : Rd w r g p 0 l) (hm : l.length = p + m) (h8 : ¬ m < 8) :
    Calls Try.prog 51 #[.pointer (some ⟨r, 0, none⟩)] w fun e w' => e = .returned (.int .u64 (wideVal ((l.drop p).take 8) 8)) ∧ Rd w' r g (p + 8) 0 l ∧ w.grownBy w' (some r) := by
  have Hm : Hid (l.length = p + m) := hm
  clear hm
  go_enter Try.func51, Try.ntmps51
  go_wp2_with fail
  refine (take_yes _ r g p m 8 l h Hm.out (by omega)).mono ?_
  rintro e w1 ⟨a, c, rfl, hb, hr, hg⟩
  go_wp2_with fail
  refine (wideForm_any a 8 c _ _ hb (by omega)).mono ?_
  rintro e w2 ⟨rfl, rfl⟩
  go_wp2
  go_ret
  exact ⟨rfl, hr, hg⟩

end Go.Proofs.Ytgcbbnmjomhngaa
