/- The walks of the document's digits. -/
import Derived.Test.YtkfmihbbmafolaaHex
namespace Go.Proofs.Ytkfmihbbmafolaa
open Go.RowKit

theorem refDigit_any (c : Int) (w : World) (h0 : 0 ≤ c) (h1 : c ≤ 255) :
    Calls Try.prog 41 #[.int .u8 c] w fun e w' => e = .returned (.int .u64 (dig c)) ∧ w' = w := by
  unfold dig
  by_cases h : 48 ≤ c ∧ c ≤ 57
  · rw [if_pos h]
    obtain ⟨ha, hb⟩ := h
    go_enter Try.func41, Try.ntmps41
    go_wp2
    go_ret
    exact ⟨rfl, rfl⟩
  · rw [if_neg h]
    by_cases h2 : 97 ≤ c ∧ c ≤ 102
    · rw [if_pos h2]
      obtain ⟨ha, hb⟩ := h2
      clear h
      have e : c - 97 + 10 = c - 87 := by omega
      go_enter Try.func41, Try.ntmps41
      go_wp2
      go_ret
      exact ⟨rfl, rfl⟩
    · rw [if_neg h2]
      have hn : c < 48 ∨ (57 < c ∧ c < 97) ∨ 102 < c := by omega
      clear h h2
      rcases hn with h | ⟨h, h'⟩ | h
      all_goals
        go_enter Try.func41, Try.ntmps41
        go_wp2
        go_ret
        exact ⟨rfl, rfl⟩

theorem refUnhex_len (s : ByteArray) (w : World) (h : ((s.size : Int) != 16) = true) :
    Calls Try.prog 19 #[.string s] w fun e w' => e = .returned (.tuple #[.int .u64 0, .bool false]) ∧ w' = w := by
  go_enter Try.func19, Try.ntmps19
  go_wp2
  go_ret2
  exact ⟨rfl, rfl⟩

set_option maxHeartbeats 400000 in
theorem refUnhex_any (s : ByteArray) (w : World) (h : s.size = 16) :
    Calls Try.prog 19 #[.string s] w fun e w' => ((hexOK s.data.toList → e = .returned (.tuple #[.int .u64 (unhexTo s.data.toList 16), .bool true])) ∧ (¬ hexOK s.data.toList → e = .returned (.tuple #[.int .u64 0, .bool false]))) ∧ w' = w := by
  have hl : s.data.toList.length = 16 := by simpa using h
  have hs : ((s.size : Int) != 16) = false := by rw [h]; rfl
  have Hs : Hid (s.size = 16) := h
  have hs1 : s.size ≤ 16 := by omega
  have hs2 : 16 ≤ s.size := by omega
  have HP : Hid (hexOK s.data.toList ↔ ∀ j, j < 16 → dig (bt s.data.toList j) ≤ 15) := ⟨fun k => k.2, fun k => ⟨hl, k⟩⟩
  clear h hl
  have HB : Hid (∀ k, (hk : k < s.size) → (s[k].toNat : Int) = bt s.data.toList k) := fun k hk => str_bt s k hk
  generalize s.data.toList = l at *
  go_enter Try.func19, Try.ntmps19
  go_wp2
  go_loop [4, 5] (fun x i => ∃ k : Nat, k ≤ 16 ∧ i = .int .i64 k ∧ x = .int .u64 (unhexTo l k) ∧ Hid (∀ j, j < k → dig (bt l j) ≤ 15)) (fun _ i => 16 - (intOf i).toNat)
  case atStart => exact ⟨0, Nat.zero_le _, rfl, rfl, fun j hj => by omega⟩
  case round =>
    obtain ⟨k, hk, rfl, rfl, HK⟩ := hrel
    by_cases hlt : k < 16
    · have hlt' : k < s.size := by omega
      have hbk := HB.out k hlt'
      have HBk : Hid ((s[k].toNat : Int) = bt l k) := hbk
      clear hbk
      have b0 := bt_lo l k
      have b1 := bt_hi l k
      by_cases hd : dig (bt l k) ≤ 15
      · have h0 := unhexTo_lo l k
        have h1 : unhexTo l k < 1152921504606846976 := by
          have := unhexTo_hi l k HK.out
          have := pow16_15 k (by omega)
          omega
        have d0 := dig_lo (bt l k)
        have HO : Hid (unhexTo l k * 16 + dig (bt l k) = unhexTo l (k + 1)) := rfl
        go_wp2_with fail
        rw [HBk.out]
        refine (refDigit_any _ _ b0 b1).mono ?_
        rintro e w1 ⟨rfl, rfl⟩
        go_wp2_with fail
        rw [HBk.out]
        refine (refDigit_any _ _ b0 b1).mono ?_
        rintro e w2 ⟨rfl, rfl⟩
        go_wp2
        go_round
        case rel =>
          refine ⟨k + 1, by omega, by go_num, by rw [HO.out], fun j hj => ?_⟩
          by_cases hjk : j < k
          · exact HK.out j hjk
          · obtain rfl : j = k := by omega
            exact hd
        case measure => simp [intOf]; omega
      · go_wp2_with fail
        rw [HBk.out]
        refine (refDigit_any _ _ b0 b1).mono ?_
        rintro e w1 ⟨rfl, rfl⟩
        go_wp2
        go_ret2
        exact ⟨⟨fun hok => absurd (HP.out.1 hok k (by omega)) (by omega), fun _ => rfl⟩, rfl⟩
    · have HE : Hid (k = 16) := by show k = 16; omega
      go_wp2
      go_ret2
      have e := HE.out
      subst e
      exact ⟨⟨fun _ => rfl, fun hno => absurd (HP.out.2 HK.out) hno⟩, rfl⟩

theorem refUnhex_yes (s : ByteArray) (w : World) (h : hexOK s.data.toList) :
    Calls Try.prog 19 #[.string s] w fun e w' => e = .returned (.tuple #[.int .u64 (unhexTo s.data.toList 16), .bool true]) ∧ w' = w :=
  (refUnhex_any s w (by simpa using h.1)).mono fun e w' ⟨h1, h2⟩ => ⟨h1.1 h, h2⟩
theorem refUnhex_no (s : ByteArray) (w : World) (h : ¬ hexOK s.data.toList) :
    Calls Try.prog 19 #[.string s] w fun e w' => e = .returned (.tuple #[.int .u64 0, .bool false]) ∧ w' = w := by
  by_cases hs : s.size = 16
  · exact (refUnhex_any s w hs).mono fun e w' ⟨h1, h2⟩ => ⟨h1.2 h, h2⟩
  · exact refUnhex_len s w (by rw [bne_iff_ne]; omega)

theorem made_cell (H n : Nat) (w : World) (hg : w.heap[H]? = some (.cells (madeCells #[Value.int .u8 0] n) 5 (0, 0))) (j : Nat) (h : j < n) : w.cell? ⟨H, j, none⟩ = some (.int .u8 0) ∧ w.frozen? ⟨H, j, none⟩ = false := by
  constructor
  · rw [cell_of_row w H j _ _ _ hg]
    simp [madeCells, h, Nat.mod_one]
  · simp [World.frozen?, hg]

set_option maxRecDepth 20000 in
set_option maxHeartbeats 1000000 in
theorem refHex_any (x : Nat) (w : World) (hx : x < 18446744073709551616) :
    Calls Try.prog 23 #[.int .u64 x] w fun e w' => e = .returned (.string ⟨(hexOf x).toArray⟩) ∧ Below w.heap.size w w' := by
  obtain ⟨i0, hi, hz0, hz1, hz2⟩ := info_parts Try.info5
  have hu := Try.underlying22
  go_enter Try.func23, Try.ntmps23
  go_wp2_with (at_make; refine wpList_make_part _ rfl _ _ 22 rfl 5 i0 (.int .u8 0) hu hi hz0 hz1 hz2 _ _ 16 16 _ _ rfl rfl rfl rfl (by omega) (by omega) ?_; intro w1 hg1 hb1)
  go_loopw [0, 4] (fun z i wr => ∃ k : Nat, k ≤ 16 ∧ i = .int .i64 (15 - (k : Int)) ∧ z = .int .u64 (x / 16 ^ k : Nat) ∧ HexRow wr w.heap.size x k ∧ Below w.heap.size w wr) (fun _ i _ => (intOf i + 1).toNat)
  case atStart =>
    refine ⟨0, Nat.zero_le _, rfl, by simp, ⟨fun j hj => ?_, fun j hj => (made_cell _ _ _ hg1.out j hj).2⟩, hb1⟩
    rw [(made_cell _ _ _ hg1.out j hj).1]
    unfold hexCell
    rw [if_neg (by omega)]
  case round =>
    clear hg1 hb1
    obtain ⟨k, hk, rfl, rfl, HR, hB⟩ := hrel
    by_cases hlt : k < 16
    · obtain ⟨j, hj⟩ : ∃ j : Nat, j + k = 15 := ⟨15 - k, by omega⟩
      rw [show (15 - (k : Int)) = (j : Int) from by omega]
      have hcj := HR.cell j (by omega)
      have hfj := HR.free j (by omega)
      have i0 : (0 : Int) ≤ (j : Int) := by omega
      have i1 : (j : Int) < 16 := by omega
      have Hj : Hid (j + k = 15) := hj
      have HD : Hid ((x / 16 ^ k) / 16 = x / 16 ^ (k + 1)) := by show _ = _; rw [Nat.div_div_eq_div_mul, Nat.pow_succ]
      have hyx : x / 16 ^ k < 18446744073709551616 := Nat.lt_of_le_of_lt (Nat.div_le_self _ _) hx
      clear hj hx
      generalize hy : x / 16 ^ k = y at *
      have Hy : Hid (x / 16 ^ k = y) := hy
      clear hy
      by_cases h10 : y % 16 < 10
      · go_wp2
        go_roundw
        case rel =>
          refine ⟨k + 1, by omega, by have := Hj.out; go_num, ?_, HR.step Hj.out _ (by rw [Hy.out]; unfold hexd; rw [if_pos h10]; omega), hB.setCell (Nat.le_refl _) _⟩
          rw [← HD.out]
          go_num
        case measure => simp [intOf]
      · go_wp2
        go_roundw
        case rel =>
          refine ⟨k + 1, by omega, by have := Hj.out; go_num, ?_, HR.step Hj.out _ (by rw [Hy.out]; unfold hexd; rw [if_neg (by omega)]; omega), hB.setCell (Nat.le_refl _) _⟩
          rw [← HD.out]
          go_num
        case measure => simp [intOf]
    · obtain rfl : k = 16 := by omega
      have r1 := run_string wr (some ⟨w.heap.size, 0, none⟩) 16 16 (hexOf x) HR.bytes
      go_wp2
      go_ret
      exact ⟨rfl, hB⟩

end Go.Proofs.Ytkfmihbbmafolaa
