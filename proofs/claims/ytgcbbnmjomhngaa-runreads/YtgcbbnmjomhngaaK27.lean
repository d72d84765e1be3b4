import Derived.Test.YtgcbbnmjomhngaaK09
/- The walk of the document's reading of a short form: it answers the same function of the bytes as the program's. -/
namespace Go.Proofs.Ytgcbbnmjomhngaa
open Go.RowKit

set_option maxHeartbeats 1000000 in
theorem number_any (a : Option Addr) (n cap : Nat) (l : List UInt8) (w : World) (hb : Bytes w a n l) (hm : n ≤ maxLen) :
    Calls Try.prog 34 #[.slice a n cap] w fun e w' => e = .returned (.tuple #[.int .u64 (num l).1, .int .i64 (num l).2.1, .int .i64 (num l).2.2]) ∧ w' = w := by
  unfold maxLen at hm
  obtain ⟨hl, hc⟩ := hb
  have HN : Hid (num l = numFrom l (n - 0) 0) := by show num l = _; unfold num; rw [hl]; rfl
  go_enter Try.func34, Try.ntmps34
  go_wp2
  go_loop [5, 6, 7] (fun x s i => ∃ k : Nat, k ≤ n ∧ k ≤ 9 ∧ i = .int .i64 k ∧ x = .int .u64 (accTo l k) ∧ s = .int .u64 (128 ^ k) ∧ Hid (num l = numFrom l (n - k) k)) (fun _ _ i => n - (intOf i).toNat)
  case atStart => exact ⟨0, Nat.zero_le _, by omega, rfl, rfl, rfl, HN⟩
  case round =>
    clear HN
    obtain ⟨k, hk, hk9, rfl, rfl, rfl, HN⟩ := hrel
    by_cases hlt : k < n
    · obtain ⟨b, off, rfl, hcell⟩ := hc (by omega)
      have hck := hcell k hlt
      have b0 := bt_lo l k
      have b1 := bt_hi l k
      have h0 := accTo_lo l k
      clear hcell hc hl
      have HS : Hid (accTo l k + bt l k % 128 * 128 ^ k = accTo l (k + 1)) := (accTo_succ l k).symm
      have HF : Hid (k ≤ 9 → (k = 9 → bt l k ≤ 1) → (0 ≤ bt l k % 128 * 128 ^ k ∧ bt l k % 128 * 128 ^ k ≤ 9223372036854775808) ∧ (0 ≤ accTo l k + bt l k % 128 * 128 ^ k ∧ accTo l k + bt l k % 128 * 128 ^ k ≤ 18446744073709551615)) :=
        fun h1 h2 => ⟨group_fits (bt l k) k b0 h1 h2, add_step l (bt l k) k b0 h1 h2⟩
      have NB : Hid (brokenB k (bt l k) = true → num l = (0, 0, 8)) := num_broken HN.out hlt
      have NL : Hid (brokenB k (bt l k) = false → bt l k < 128 → num l = (accTo l (k + 1), k + 1, 0)) := num_last HN.out hlt
      have NN : Hid (brokenB k (bt l k) = false → ¬ bt l k < 128 → num l = numFrom l (n - (k + 1)) (k + 1)) := num_next HN.out hlt
      have P8 : Hid (k ≤ 8 → (128 : Int) ^ k ≤ 72057594037927936) := pow128_8 k
      have P0 : (0 : Int) ≤ 128 ^ k := Int.pow_nonneg (by omega)
      have PS : Hid ((128 : Int) ^ k * 128 = 128 ^ (k + 1)) := (Int.pow_succ 128 k).symm
      clear HN
      generalize bt l k = c at *
      generalize hpw : (128 : Int) ^ k = P at *
      clear hpw
      by_cases h9 : k = 9
      · have k9 : ((k : Int) == 9) = true := by simp; omega
        have kp : 0 < k := by omega
        have H9 : Hid (k = 9) := h9
        clear h9
        by_cases hc1 : 1 < c
        · go_wp2
          go_ret3
          exact ⟨ret3_of (NB.out (by have := H9.out; simp [brokenB]; omega)) (by omega), rfl⟩
        · by_cases hz : c = 0
          · subst hz
            go_wp2
            go_ret3
            exact ⟨ret3_of (NB.out (by have := H9.out; simp [brokenB]; omega)) (by omega), rfl⟩
          · have cz : (c == 0) = false := by simpa using hz
            have h8 : c < 128 := by omega
            have F := HF.out hk9 (fun _ => by omega)
            have e1 : IntKind.u64.wrap (c % 128 * P) = c % 128 * P := wraps64 _ F.1.1 (by omega)
            have e2 : IntKind.u64.wrap (accTo l k + c % 128 * P) = accTo l k + c % 128 * P := wraps64 _ F.2.1 (by omega)
            clear F
            go_wp2
            go_ret3
            exact ⟨ret3_of (by rw [NL.out (by have := H9.out; simp [brokenB]; omega) h8, HS.out]; congr 2) (by omega), rfl⟩
      · have k9 : ((k : Int) == 9) = false := by simp; omega
        have F := HF.out (by omega) (fun _ => by omega)
        have e1 : IntKind.u64.wrap (c % 128 * P) = c % 128 * P := wraps64 _ F.1.1 (by omega)
        have e2 : IntKind.u64.wrap (accTo l k + c % 128 * P) = accTo l k + c % 128 * P := wraps64 _ F.2.1 (by omega)
        have p8 := P8.out (by omega)
        clear F
        by_cases hk0 : ¬ 0 < k
        · by_cases h8 : c < 128
          · go_wp2
            go_ret3
            exact ⟨ret3_of (by rw [NL.out (by simp [brokenB]; omega) h8, HS.out]; congr 2) (by omega), rfl⟩
          · go_wp2
            go_round
            case rel => exact ⟨k + 1, by omega, by omega, by go_num, by rw [HS.out], by rw [← PS.out], NN.out (by simp [brokenB]; omega) h8⟩
            case measure => simp [intOf]; omega
        · have kp : 0 < k := by omega
          by_cases hz : c = 0
          · subst hz
            go_wp2
            go_ret3
            exact ⟨ret3_of (NB.out (by simp [brokenB]; omega)) (by omega), rfl⟩
          · have cz : (c == 0) = false := by simpa using hz
            by_cases h8 : c < 128
            · go_wp2
              go_ret3
              exact ⟨ret3_of (by rw [NL.out (by simp [brokenB]; omega) h8, HS.out]; congr 2) (by omega), rfl⟩
            · go_wp2
              go_round
              case rel => exact ⟨k + 1, by omega, by omega, by go_num, by rw [HS.out], by rw [← PS.out], NN.out (by simp [brokenB]; omega) h8⟩
              case measure => simp [intOf]; omega
    · have NS := num_short HN.out hlt
      clear HN
      have NS' : Hid (num l = (0, 0, 110)) := NS
      clear NS
      go_wp2
      go_ret3
      exact ⟨ret3_of (by rw [NS'.out]; rfl) (by omega), rfl⟩
end Go.Proofs.Ytgcbbnmjomhngaa
