import Derived.Test.YtdjodigimhgklaaGreatDoorP05
import Derived.Test.YtdjodigimhgklaaGreatDoorP01
import Derived.Test.YtdjodigimhgklaaGreatDoorP10
import Derived.Test.YtdjodigimhgklaaGreatDoorP09
import Derived.Test.YtdjodigimhgklaaGreatDoorP04
import Derived.Room.AppendFits
import Derived.Test.YtdjodigimhgklaaGreatDoorP11
import Derived.Deep.RegionHeld3
/- The walks of the program's digits. -/
namespace Go.Proofs.YtdjodigimhgklaaGreatDoor
open Go.RowKit

theorem digitValue_yes (c : Int) (w : World) (h0 : 0 ≤ c) (h1 : c ≤ 255) (hd : dig c ≤ 15) :
    Calls Tryz.prog 134 #[.int .u8 c] w fun e w' => e = .returned (.tuple #[.int .u8 (dig c), .bool true]) ∧ w' = w := by
  unfold dig at hd ⊢
  by_cases h : 48 ≤ c ∧ c ≤ 57
  · rw [if_pos h]
    obtain ⟨ha, hb⟩ := h
    clear hd
    go_enter Tryz.func134, Tryz.ntmps134
    go_wp2
    go_ret2
    exact ⟨rfl, rfl⟩
  · rw [if_neg h] at hd ⊢
    by_cases h2 : 97 ≤ c ∧ c ≤ 102
    · rw [if_pos h2]
      obtain ⟨ha, hb⟩ := h2
      clear hd h
      have e : c - 97 + 10 = c - 87 := by omega
      go_enter Tryz.func134, Tryz.ntmps134
      go_wp2
      go_ret2
      exact ⟨rfl, rfl⟩
    · rw [if_neg h2] at hd
      omega

theorem digitValue_no (c : Int) (w : World) (h0 : 0 ≤ c) (h1 : c ≤ 255) (hd : ¬ dig c ≤ 15) :
    Calls Tryz.prog 134 #[.int .u8 c] w fun e w' => e = .returned (.tuple #[.int .u8 0, .bool false]) ∧ w' = w := by
  have hn : c < 48 ∨ (57 < c ∧ c < 97) ∨ 102 < c := by
    unfold dig at hd
    by_cases h : 48 ≤ c ∧ c ≤ 57
    · rw [if_pos h] at hd; omega
    · rw [if_neg h] at hd
      by_cases h2 : 97 ≤ c ∧ c ≤ 102
      · rw [if_pos h2] at hd; omega
      · omega
  clear hd
  rcases hn with h | ⟨h, h'⟩ | h
  all_goals
    go_enter Tryz.func134, Tryz.ntmps134
    go_wp2
    go_ret2
    exact ⟨rfl, rfl⟩

theorem digit_any (v : Nat) (w : World) (h : v < 16) :
    Calls Tryz.prog 120 #[.int .u8 v] w fun e w' => e = .returned (.int .u8 (hexd v)) ∧ w' = w := by
  by_cases h10 : v < 10
  · have e : ((hexd v : Nat) : Int) = 48 + (v : Int) := by unfold hexd; rw [if_pos h10]; omega
    rw [e]
    clear e
    go_enter Tryz.func120, Tryz.ntmps120
    go_wp2
    go_ret
    exact ⟨rfl, rfl⟩
  · have e : ((hexd v : Nat) : Int) = 97 + ((v : Int) - 10) := by unfold hexd; rw [if_neg h10]; omega
    rw [e]
    clear e
    go_enter Tryz.func120, Tryz.ntmps120
    go_wp2
    go_ret
    exact ⟨rfl, rfl⟩

set_option maxHeartbeats 400000 in
theorem unhex_len (s : ByteArray) (w : World) (h : ((s.size : Int) != 16) = true) :
    Calls Tryz.prog 94 #[.string s] w fun e w' => e = .returned (.tuple #[.int .u64 0, .int .i64 8]) ∧ w' = w := by
  go_enter Tryz.func94, Tryz.ntmps94
  go_wp2
  go_ret2
  exact ⟨rfl, rfl⟩

set_option maxHeartbeats 400000 in
theorem unhex_any (s : ByteArray) (w : World) (h : s.size = 16) :
    Calls Tryz.prog 94 #[.string s] w fun e w' => ((hexOK s.data.toList → e = .returned (.tuple #[.int .u64 (unhexTo s.data.toList 16), .int .i64 0])) ∧ (¬ hexOK s.data.toList → e = .returned (.tuple #[.int .u64 0, .int .i64 8]))) ∧ w' = w := by
  have hl : s.data.toList.length = 16 := by simpa using h
  have hs : ((s.size : Int) != 16) = false := by rw [h]; rfl
  have Hs : Hid (s.size = 16) := h
  have hs1 : s.size ≤ 16 := by omega
  have hs2 : 16 ≤ s.size := by omega
  have HP : Hid (hexOK s.data.toList ↔ ∀ j, j < 16 → dig (bt s.data.toList j) ≤ 15) := ⟨fun k => k.2, fun k => ⟨hl, k⟩⟩
  clear h hl
  have HB : Hid (∀ k, (hk : k < s.size) → (s[k].toNat : Int) = bt s.data.toList k) := fun k hk => str_bt s k hk
  generalize s.data.toList = l at *
  go_enter Tryz.func94, Tryz.ntmps94
  go_wp2
  go_loop [4, 13] (fun x i => ∃ k : Nat, k ≤ 16 ∧ i = .int .i64 k ∧ x = .int .u64 (unhexTo l k) ∧ Hid (∀ j, j < k → dig (bt l j) ≤ 15)) (fun _ i => 16 - (intOf i).toNat)
  case atStart => exact ⟨0, Nat.zero_le _, rfl, rfl, fun j hj => by omega⟩
  case round =>
    obtain ⟨k, hk, rfl, rfl, HK⟩ := hrel
    by_cases hlt : k < s.size
    · have hbk := HB.out k hlt
      have HBk : Hid ((s[k].toNat : Int) = bt l k) := hbk
      clear hbk
      have b0 := bt_lo l k
      have b1 := bt_hi l k
      by_cases hd : dig (bt l k) ≤ 15
      · have h0 := unhexTo_lo l k
        have h1 : unhexTo l k < 1152921504606846976 := by
          have := unhexTo_hi l k HK.out
          have := pow16_15 k (by omega)
          omega
        have d0 := dig_lo (bt l k)
        have HO : Hid (bits BinOp.or IntKind.u64 (unhexTo l k * 16) (dig (bt l k)) = unhexTo l (k + 1)) := by
          rw [shl4 _ _ h0 h1 d0 hd, unhexTo_succ]; rfl
        go_wp2_with fail
        rw [HBk.out]
        refine (digitValue_yes _ _ b0 b1 hd).mono ?_
        rintro e w1 ⟨rfl, rfl⟩
        go_wp2
        go_round
        case rel =>
          refine ⟨k + 1, by omega, by go_num, by rw [HO.out], fun j hj => ?_⟩
          by_cases hjk : j < k
          · exact HK.out j hjk
          · obtain rfl : j = k := by omega
            exact hd
        case measure => simp [intOf]; omega
      · go_wp2_with fail
        rw [HBk.out]
        refine (digitValue_no _ _ b0 b1 (by omega)).mono ?_
        rintro e w1 ⟨rfl, rfl⟩
        go_wp2
        go_ret2
        exact ⟨⟨fun hok => absurd (HP.out.1 hok k (by omega)) (by omega), fun _ => rfl⟩, rfl⟩
    · have HE : Hid (k = 16) := by show k = 16; omega
      go_wp2
      go_ret2
      have e := HE.out
      subst e
      exact ⟨⟨fun _ => rfl, fun hno => absurd (HP.out.2 HK.out) hno⟩, rfl⟩

theorem unhex_yes (s : ByteArray) (w : World) (h : hexOK s.data.toList) :
    Calls Tryz.prog 94 #[.string s] w fun e w' => e = .returned (.tuple #[.int .u64 (unhexTo s.data.toList 16), .int .i64 0]) ∧ w' = w :=
  (unhex_any s w (by simpa using h.1)).mono fun e w' ⟨h1, h2⟩ => ⟨h1.1 h, h2⟩
theorem unhex_no (s : ByteArray) (w : World) (h : ¬ hexOK s.data.toList) :
    Calls Tryz.prog 94 #[.string s] w fun e w' => e = .returned (.tuple #[.int .u64 0, .int .i64 8]) ∧ w' = w := by
  by_cases hs : s.size = 16
  · exact (unhex_any s w hs).mono fun e w' ⟨h1, h2⟩ => ⟨h1.2 h, h2⟩
  · exact unhex_len s w (by rw [bne_iff_ne]; omega)
theorem hexCell_old (x k j : Nat) (h : j + k = 15) (i : Nat) (hne : i ≠ j) : hexCell x (k + 1) i = hexCell x k i := by
  unfold hexCell
  by_cases h1 : 16 - k ≤ i
  · rw [if_pos h1, if_pos (by omega)]
  · rw [if_neg h1, if_neg (by omega)]
theorem hexCell_new (x k j : Nat) (h : j + k = 15) : hexCell x (k + 1) j = (hexd (x / 16 ^ k % 16) : Int) := by
  unfold hexCell
  rw [if_pos (by omega), show 15 - j = k from by omega]

/-- the row of sixteen cells behind k rounds -/
structure HexRow (w : World) (H x k : Nat) : Prop where
  cell : ∀ j, j < 16 → w.cell? ⟨H, j, none⟩ = some (.int .u8 (hexCell x k j))
  free : ∀ j, j < 16 → w.frozen? ⟨H, j, none⟩ = false

theorem HexRow.step {w : World} {H x k j : Nat} (h : HexRow w H x k) (hj : j + k = 15) (v : Int) (hv : v = (hexd (x / 16 ^ k % 16) : Int)) : HexRow (w.setCell ⟨H, j, none⟩ (.int .u8 v)) H x (k + 1) := by
  subst hv
  refine ⟨fun i hi => ?_, fun i hi => by rw [World.frozen?_setCell]; exact h.free i hi⟩
  by_cases hij : i = j
  · subst hij
    rw [hexCell_new x k i hj]
    exact World.cell?_setCell_same _ _ _ (h.cell i hi)
  · rw [World.cell?_setCell_other _ _ _ _ (fun e => hij (by injection e with _ e2; exact e2.symm)), hexCell_old x k j hj i hij]
    exact h.cell i hi

theorem HexRow.bytes {w : World} {H x : Nat} (h : HexRow w H x 16) : Bytes w (some ⟨H, 0, none⟩) 16 (hexOf x) := by
  refine ⟨hexOf_len x, fun _ => ⟨H, 0, rfl, fun i hi => ?_⟩⟩
  rw [Nat.zero_add, h.cell i hi, hexOf_bt x i hi]
  unfold hexCell
  rw [if_pos (by omega)]

set_option maxRecDepth 20000 in
set_option maxHeartbeats 400000 in
theorem hex_any (x : Nat) (w : World) (hx : x < 18446744073709551616) :
    Calls Tryz.prog 76 #[.int .u64 x] w fun e w' => e = .returned (.string ⟨(hexOf x).toArray⟩) ∧ Below w.heap.size w w' := by
  go_enter Tryz.func76, Tryz.ntmps76
  go_wp2_with fail
  go_loopw [0, 4] (fun z i wr => ∃ k : Nat, k ≤ 16 ∧ i = .int .i64 (15 - (k : Int)) ∧ z = .int .u64 (x / 16 ^ k : Nat) ∧ HexRow wr w.heap.size x k ∧ Below w.heap.size w wr) (fun _ i _ => (intOf i + 1).toNat)
  case atStart =>
    refine ⟨0, Nat.zero_le _, rfl, by simp, ⟨fun j hj => ?_, fun j hj => ?_⟩, (Below.refl _ _).alloc (Nat.le_refl _) _⟩
    · have : j = 0 ∨ j = 1 ∨ j = 2 ∨ j = 3 ∨ j = 4 ∨ j = 5 ∨ j = 6 ∨ j = 7 ∨ j = 8 ∨ j = 9 ∨ j = 10 ∨ j = 11 ∨ j = 12 ∨ j = 13 ∨ j = 14 ∨ j = 15 := by omega
      rw [World.cell?_alloc_new]
      rcases this with rfl | rfl | rfl | rfl | rfl | rfl | rfl | rfl | rfl | rfl | rfl | rfl | rfl | rfl | rfl | rfl <;> rfl
    · simp
  case round =>
    obtain ⟨k, hk, rfl, rfl, HR, hB⟩ := hrel
    by_cases hlt : k < 16
    · obtain ⟨j, hj⟩ : ∃ j : Nat, j + k = 15 := ⟨15 - k, by omega⟩
      rw [show (15 - (k : Int)) = (j : Int) from by omega]
      have hcj := HR.cell j (by omega)
      have hfj := HR.free j (by omega)
      have i0 : (0 : Int) ≤ (j : Int) := by omega
      have i1 : (j : Int) < 16 := by omega
      have Hj : Hid (j + k = 15) := hj
      have HA : Hid (bits BinOp.and IntKind.u64 ((x / 16 ^ k : Nat) : Int) 15 = ((x / 16 ^ k % 16 : Nat) : Int)) := and15 _ (Nat.lt_of_le_of_lt (Nat.div_le_self _ _) hx)
      have HD : Hid ((x / 16 ^ k) / 16 = x / 16 ^ (k + 1)) := by show _ = _; rw [Nat.div_div_eq_div_mul, Nat.pow_succ]
      have hym : x / 16 ^ k % 16 < 16 := Nat.mod_lt _ (by omega)
      clear hj
      generalize hy : x / 16 ^ k = y at *
      have Hy : Hid (x / 16 ^ k = y) := hy
      clear hy
      go_wp2_with fail
      rw [show bits BinOp.and IntKind.u64 (y : Int) 15 % 256 = ((y % 16 : Nat) : Int) from by rw [HA.out]; omega]
      refine (digit_any (y % 16) _ hym).mono ?_
      rintro e w1 ⟨rfl, rfl⟩
      go_wp2
      go_roundw
      case rel =>
        refine ⟨k + 1, by omega, by have := Hj.out; go_num, ?_, HR.step Hj.out _ (by rw [Hy.out]), hB.setCell (Nat.le_refl _) _⟩
        rw [← HD.out]
        go_num
      case measure => simp [intOf]
    · obtain rfl : k = 16 := by omega
      have r1 := run_string wr (some ⟨w.heap.size, 0, none⟩) 16 16 (hexOf x) HR.bytes
      go_wp2
      go_ret
      exact ⟨rfl, hB⟩

end Go.Proofs.YtdjodigimhgklaaGreatDoor

/- The walks of the program's writing: appendShort, shortSize, PutUint, PutWord, PutText. -/
namespace Go.Proofs.YtdjodigimhgklaaGreatDoor
open Go.RowKit

set_option maxRecDepth 20000 in
set_option maxHeartbeats 1000000 in
theorem appendShort_fits (base g n cap x : Nat) (l : List UInt8) (w : World) (hx : x < 18446744073709551616) (hn : n + (short x).length ≤ cap)
    (hown : w.ownsRow base 5 1 (.slice (some ⟨g, 0, none⟩) n cap) n (cellsOf l)) :
    Calls Tryz.prog 147 #[.slice (some ⟨g, 0, none⟩) n cap, .int .u64 x] w fun e w' => e = .returned (.slice (some ⟨g, 0, none⟩) (n + (short x).length) cap) ∧
      w'.ownsRow base 5 1 (.slice (some ⟨g, 0, none⟩) (n + (short x).length) cap) (n + (short x).length) (cellsOf (l ++ short x)) ∧ w.grownBy w' (some g) := by
  obtain ⟨i0, hi, hz0, hz1, hz2⟩ := info_parts Tryz.info5
  have hu := Tryz.underlying33
  obtain ⟨S, hS⟩ : ∃ S, S = short x := ⟨_, rfl⟩
  rw [← hS] at hn ⊢
  have HS : Hid (S = [] ++ shortF (9 - 0) x) := by rw [hS]; rfl
  clear hS
  go_enter Tryz.func147, Tryz.ntmps147
  go_wp2
  go_loopw [0, 1] (fun v z wr => ∃ (k y m : Nat) (d : List UInt8), k ≤ 9 ∧ m = n + d.length ∧ Hid (y * 128 ^ k < 18446744073709551616) ∧ Hid (S = d ++ shortF (9 - k) y) ∧ z = .int .u64 y ∧ v = .slice (some ⟨g, 0, none⟩) m cap ∧
      wr.ownsRow base 5 1 (.slice (some ⟨g, 0, none⟩) m cap) m (cellsOf (l ++ d)) ∧ w.grownBy wr (some g)) (fun _ z _ => (intOf z).toNat)
  case atStart => exact ⟨0, x, n, [], by omega, by simp, by show _ < _; omega, HS, rfl, rfl, by simpa using hown, World.grownBy.refl _ _⟩
  case round =>
    clear HS
    obtain ⟨k, y, m, d, hk, hm, HY, HS, rfl, rfl, hown', hgr⟩ := hrel
    have Hm : Hid (m = n + d.length) := hm
    clear hm hown
    by_cases hy : 128 ≤ y
    · have hk8 : k ≤ 8 := by
        by_cases h9 : k = 9
        · subst h9; have := HY.out; omega
        · omega
      have hsl := shortF_high (8 - k) y (by omega)
      rw [show 8 - k + 1 = 9 - k from by omega] at hsl
      have hfit : m + 1 ≤ cap := by
        have h1 := HS.out; have h2 := Hm.out
        rw [hsl] at h1
        rw [h1] at hn
        simp at hn; omega
      have HL : Hid (shortF (9 - k) y = UInt8.ofNat (y % 128 + 128) :: shortF (8 - k) (y / 128)) := hsl
      clear hsl
      have Hsn : Hid (∀ z : Int, z = bits BinOp.or IntKind.u8 ((y : Int) % 256) 128 → cellsOf (l ++ d) ++ [Value.int .u8 z] = cellsOf (l ++ (d ++ [UInt8.ofNat (y % 128 + 128)]))) := by
        intro z hz
        rw [cellsOf_snoc (l ++ d) (UInt8.ofNat (y % 128 + 128)) z (by rw [hz, or128]), List.append_assoc]
      go_wp2_with (at_builtin; refine wpList_push_fits _ rfl _ _ rfl base g m cap _ rfl rfl hown' hfit ?_; intro w1 hown1 hgr1)
      rw [Hsn.out _ rfl] at hown1
      go_roundw
      case rel =>
        refine ⟨k + 1, y / 128, m + 1, d ++ [UInt8.ofNat (y % 128 + 128)], by omega, by have := Hm.out; simp; omega, ?_, ?_, by go_num, rfl, hown1, grownBy_trans hgr hgr1⟩
        · have h1 := HY.out
          have h2 : y / 128 * 128 ^ (k + 1) ≤ y * 128 ^ k := by
            rw [Nat.pow_succ, Nat.mul_comm (128 ^ k) 128, ← Nat.mul_assoc]
            exact Nat.mul_le_mul_right _ (Nat.div_mul_le_self y 128)
          show _ < _
          omega
        · have h1 := HS.out
          rw [HL.out] at h1
          show S = _
          rw [h1, show 9 - (k + 1) = 8 - k from by omega]
          simp
      case measure => simp [intOf]; omega
    · have hsl := shortF_low (9 - k) y (by omega)
      have HL : Hid (S = d ++ [UInt8.ofNat y]) := by have := HS.out; rw [hsl] at this; exact this
      clear hsl
      have hfit : m + 1 ≤ cap := by
        have h1 := HL.out; have h2 := Hm.out
        rw [h1] at hn
        simp at hn; omega
      have Hsn : Hid (∀ z : Int, z = (y : Int) → cellsOf (l ++ d) ++ [Value.int .u8 z] = cellsOf (l ++ (d ++ [UInt8.ofNat y]))) := by
        intro z hz
        rw [cellsOf_snoc (l ++ d) (UInt8.ofNat y) z (by rw [hz, ← low8]; omega), List.append_assoc]
      go_wp2_with (at_builtin; refine wpList_push_fits _ rfl _ _ rfl base g m cap _ rfl rfl hown' hfit ?_; intro w1 hown1 hgr1)
      rw [Hsn.out _ rfl] at hown1
      go_ret
      have e1 : m + 1 = n + S.length := by have h1 := HL.out; have h2 := Hm.out; rw [h1]; simp; omega
      rw [← HL.out, e1] at hown1
      rw [← e1] at hown1 ⊢
      exact ⟨rfl, hown1, grownBy_trans hgr hgr1⟩

/-- how many bytes the short form has -/
theorem shortSize_any (x : Nat) (w : World) (hx : x < 18446744073709551616) :
    Calls Tryz.prog 149 #[.int .u64 x] w fun e w' => e = .returned (.int .i64 (short x).length) ∧ w' = w := by
  obtain ⟨S, hS⟩ : ∃ S, S = (short x).length := ⟨_, rfl⟩
  rw [← hS]
  have HS : Hid (S = 0 + (shortF (9 - 0) x).length) := by show S = _; rw [hS]; simp [short]
  clear hS
  go_enter Tryz.func149, Tryz.ntmps149
  go_wp2
  go_loop [0, 3] (fun z q => ∃ (k y : Nat), k ≤ 9 ∧ Hid (y * 128 ^ k < 18446744073709551616) ∧ Hid (S = k + (shortF (9 - k) y).length) ∧ z = .int .u64 (y / 128 : Nat) ∧ q = .int .i64 (k + 1 : Nat)) (fun z _ => (intOf z).toNat)
  case atStart => exact ⟨0, x, by omega, by show _ < _; omega, HS, by go_num, rfl⟩
  case round =>
    clear HS
    obtain ⟨k, y, hk, HY, HS, rfl, rfl⟩ := hrel
    by_cases hy : 128 ≤ y
    · have hk8 : k ≤ 8 := by
        by_cases h9 : k = 9
        · subst h9; have := HY.out; omega
        · omega
      have hsl := shortF_high (8 - k) y (by omega)
      rw [show 8 - k + 1 = 9 - k from by omega] at hsl
      have HL : Hid (S = k + 1 + (shortF (9 - (k + 1)) (y / 128)).length) := by
        have := HS.out
        rw [hsl] at this
        show S = _
        rw [this, show 9 - (k + 1) = 8 - k from by omega]
        simp; omega
      have h0 : 0 < y / 128 := by omega
      have H2 : Hid (y / 128 * 128 ^ (k + 1) < 18446744073709551616) := by
        have h1 := HY.out
        have h2 : y / 128 * 128 ^ (k + 1) ≤ y * 128 ^ k := by
          rw [Nat.pow_succ, Nat.mul_comm (128 ^ k) 128, ← Nat.mul_assoc]
          exact Nat.mul_le_mul_right _ (Nat.div_mul_le_self y 128)
        show _ < _
        omega
      have hyb : y / 128 < y := by omega
      clear hsl HS HY
      generalize y / 128 = u at *
      go_wp2
      go_round
      case rel => exact ⟨k + 1, u, by omega, H2, HL, by go_num, by go_num⟩
      case measure => simp [intOf]; omega
    · have hsl := shortF_low (9 - k) y (by omega)
      have HL : Hid (S = k + 1) := by have := HS.out; rw [hsl] at this; exact this
      have h0 : y / 128 = 0 := by omega
      clear hsl HS
      rw [h0]
      go_wp2
      go_ret
      rw [HL.out]
      exact ⟨rfl, rfl⟩

theorem putUint_any (a : Option Addr) (n cap x : Nat) (l : List UInt8) (w : World) (hb : Bytes w a n l) (hn : n ≤ 281474976710640) (hx : x < 18446744073709551616) :
    Calls Tryz.prog 109 #[.slice a n cap, .int .u64 x] w fun e w' => ∃ g c, e = .returned (.slice (some ⟨g, 0, none⟩) (n + (short x).length) c) ∧
      w'.ownsRow w.heap.size 5 1 (.slice (some ⟨g, 0, none⟩) (n + (short x).length) c) (n + (short x).length) (cellsOf (l ++ short x)) ∧ w.grownBy w' none := by
  have hs := short_len x
  go_enter Tryz.func109, Tryz.ntmps109
  go_wp2_with fail
  refine (shortSize_any x _ hx).mono ?_
  rintro e w1 ⟨rfl, rfl⟩
  go_wp2_with fail
  refine (withRoom_any a n cap (short x).length l _ hb (by omega)).mono ?_
  rintro e w2 ⟨rfl, hown, hg⟩
  go_wp2_with fail
  refine (appendShort_fits _ _ n _ x l w2 hx (Nat.le_refl _) hown).mono ?_
  rintro e w3 ⟨rfl, hown3, hg3⟩
  go_wp2
  go_ret
  exact ⟨_, _, rfl, hown3, grownBy_of_below (((Below.refl _ _).grown hg (Nat.le_refl _) (by simp)).grown hg3 hg.size (by simp))⟩

set_option maxRecDepth 20000 in
set_option maxHeartbeats 1000000 in
theorem putWord_any (a : Option Addr) (n cap x : Nat) (l : List UInt8) (w : World) (hb : Bytes w a n l) (hn : n ≤ 281474976710640) (_hx : x < 18446744073709551616) :
    Calls Tryz.prog 111 #[.slice a n cap, .int .u64 x] w fun e w' => ∃ g c, e = .returned (.slice (some ⟨g, 0, none⟩) (n + 8) c) ∧
      w'.ownsRow w.heap.size 5 1 (.slice (some ⟨g, 0, none⟩) (n + 8) c) (n + 8) (cellsOf (l ++ wide x)) ∧ w.grownBy w' none := by
  go_enter Tryz.func111, Tryz.ntmps111
  go_wp2_with fail
  refine (withRoom_any a n cap 8 l _ hb (by omega)).mono ?_
  rintro e w2 ⟨rfl, hown, hg⟩
  go_wp2_with fail
  go_loopw [5, 6] (fun v s wr => ∃ k : Nat, k ≤ 8 ∧ v = .slice (some ⟨w.heap.size, 0, none⟩) (n + k) (n + 8) ∧ s = .int .i64 (56 - 8 * (k : Int)) ∧
      wr.ownsRow w.heap.size 5 1 (.slice (some ⟨w.heap.size, 0, none⟩) (n + k) (n + 8)) (n + k) (cellsOf (l ++ wideTo x k)) ∧ Below w.heap.size w wr) (fun _ s _ => (intOf s + 8).toNat)
  case atStart => exact ⟨0, by omega, rfl, rfl, by simpa [wideTo] using hown, (Below.refl _ _).grown hg (Nat.le_refl _) (by simp)⟩
  case round =>
    clear hown hg hb
    obtain ⟨k, hk, rfl, rfl, hown', hB⟩ := hrel
    by_cases hk8 : k < 8
    · have i1 : (0 : Int) ≤ 56 - 8 * (k : Int) := by omega
      have i2 : 56 - 8 * (k : Int) < 64 := by omega
      go_wp2_with (at_builtin; refine wpList_push_fits _ rfl _ _ rfl w.heap.size w.heap.size (n + k) (n + 8) _ rfl rfl hown' (by omega) ?_; intro w1 hown1 hgr1)
      rw [cellsOf_snoc (l ++ wideTo x k) _ _ (wide_byte x k hk8), List.append_assoc, ← wideTo_succ] at hown1
      go_roundw
      case rel => exact ⟨k + 1, by omega, rfl, by go_num, hown1, hB.grown hgr1 hB.size (by simp)⟩
      case measure => simp [intOf]; omega
    · obtain rfl : k = 8 := by omega
      go_wp2
      go_ret
      exact ⟨_, _, rfl, hown', grownBy_of_below hB⟩

theorem strCells_eq (s : ByteArray) : Lib.strCells s = cellsOf s.data.toList := rfl

set_option maxRecDepth 20000 in
set_option maxHeartbeats 1000000 in
theorem putText_any (a : Option Addr) (n cap : Nat) (s : ByteArray) (l : List UInt8) (w : World) (hb : Bytes w a n l) (hn : n + s.size ≤ 281474976710640) :
    Calls Tryz.prog 167 #[.slice a n cap, .string s] w fun e w' => ∃ g m c, m = n + (short s.size).length + s.size ∧ e = .returned (.slice (some ⟨g, 0, none⟩) m c) ∧
      w'.ownsRow w.heap.size 5 1 (.slice (some ⟨g, 0, none⟩) m c) m (cellsOf (l ++ (short s.size ++ s.data.toList))) ∧ w.grownBy w' none := by
  obtain ⟨i0, hi, hz0, hz1, hz2⟩ := info_parts Tryz.info5
  have hs := short_len s.size
  have hsp := shortF_pos 9 s.size
  have hx : s.size < 18446744073709551616 := by omega
  go_enter Tryz.func167, Tryz.ntmps167
  go_wp2_with fail
  refine (shortSize_any s.size _ hx).mono ?_
  rintro e w1 ⟨rfl, rfl⟩
  go_wp2_with fail
  rw [show ((short s.size).length : Int) + (s.size : Int) = (((short s.size).length + s.size : Nat) : Int) from by omega]
  refine (withRoom_any a n cap ((short s.size).length + s.size) l _ hb (by omega)).mono ?_
  rintro e w2 ⟨rfl, hown, hg⟩
  go_wp2_with fail
  refine (appendShort_fits _ _ n _ s.size l w2 hx (by omega) hown).mono ?_
  rintro e w3 ⟨rfl, hown3, hg3⟩
  have hB : Below w1.heap.size w1 w3 := ((Below.refl _ _).grown hg (Nat.le_refl _) (by simp)).grown hg3 hg.size (by simp)
  clear hown hg hg3 hb
  have hrm : n + (short s.size).length + s.size ≤ n + ((short s.size).length + s.size) := by omega
  have hcp : 0 < n + ((short s.size).length + s.size) := by unfold short; omega
  clear hsp hs
  generalize hN : n + (short s.size).length = N at *
  generalize hC : n + ((short s.size).length + s.size) = C at *
  have HN : Hid (n + (short s.size).length = N) := hN
  clear hN hC
  go_wp2_with (at_builtin; refine Lib.wpList_append_fits_string _ rfl _ _ 33 9 rfl w1.heap.size 5 i0 Tryz.underlying33 Tryz.underlying9 hi hz1 _ N C _ rfl hown3 s rfl hcp hrm ?_; intro w4 hown4 hg4)
  go_ret
  rw [strCells_eq, ← cellsOf_append, List.append_assoc] at hown4
  exact ⟨_, _, _, by rw [HN.out], rfl, hown4, grownBy_of_below (hB.grown hg4 hB.size (fun k hk => (hown3.lt k hk).1))⟩

end Go.Proofs.YtdjodigimhgklaaGreatDoor

/- A region that draws its order, with calls, in a round of a range over a function: it goes as it goes outside of one. Of no program; no law of the library says it. -/
namespace Go.Proofs.YtdjodigimhgklaaGreatDoor
open Go.RowKit Go.Shelf

theorem rows_wide {n : Nat} {P : Program} {row : String} {args : Array Value} {w : World} {R : Value → World → Prop} (h : Rows P row args w R) : RowsIn Fence.wide n P row args w R := fun c cs _ => let ⟨v, w', r, s⟩ := h c cs; ⟨v, w', r, stepsIn_wide.2 s⟩
theorem upon_wide {n : Nat} {P : Program} {o : Oper} {a : Act} {next : Act → World → Prop} {Q : Exit → Act → World → Prop} {r : Result Next} (h : o.upon P a next Q r) : o.uponIn Fence.wide n P a next Q r := by
  unfold Oper.upon at h
  unfold Oper.uponIn
  split at h
  · exact h
  · exact h
  · exact h
  · exact ⟨(fun h' => by cases h'), callsIn_wide.2 h⟩
  · exact ⟨(fun h' => by cases h'), rows_wide h⟩
  · exact h
  · exact h.elim
theorem any_wide {n : Nat} {P : Program} {md : Region.Mode} {ops : Array Oper} {Q : Exit → Act → World → Prop} (hQ : ¬ LetsOut Q) : ∀ (fuel : Nat) (listed : Array Bool) (a : Act) (w : World), wpAny P md ops Q fuel listed a w → wpAnyIn Fence.wide n P md ops Q fuel listed a w
  | 0, _, _, _, h => h
  | fuel + 1, listed, a, w, h => by
    refine ⟨h.1, fun i hi => ?_⟩
    have hk := h.2 i hi
    unfold wpOp at hk
    unfold wpOpIn
    cases ho : ops[i]? with
    | none =>
      rw [ho] at hk
      exact any_wide hQ fuel _ a w hk
    | some o =>
      rw [ho] at hk
      simp only at hk ⊢
      split at hk
      · rename_i hw
        rw [if_pos hw]
        refine Oper.wpIn_mono (fun a w => any_wide hQ fuel _ a w) ⟨fun _ _ => trivial, ?_⟩
        have : Fence.wide.round = none := rfl
        rw [this, Oper.semAt_none]
        exact upon_wide (hk.resolve_right (fun h => hQ h.2))
      · rename_i hw
        rw [if_neg hw]
        exact ⟨fun _ _ => trivial, any_wide hQ fuel _ _ w hk⟩
theorem region_held_round {n : Nat} {P : Program} {id : Nat} {l : List Oper} {Q : Exit → Act → World → Prop} {S : World → Prop} {a : Act} {w : World} {r : Nat} (hm : P.follows .mixedOrders = true) (hd : l.all noDefer = true) (hQ : ¬ LetsOut Q) (hS : S w.drew)
    (h : S w.drew → wpAnyH P .any l.toArray Q S l.toArray.size (Array.replicate l.toArray.size false) a w.drew) : (Code.region id l.toArray true).wpIn (Fence.wide.inRound r) n P Q a w := by
  refine wpIn_region_any hm (any_round r rfl (fun i o ho => ?_) _ _ _ _ (any_wide hQ _ _ _ _ (wpAny_of_held _ _ _ _ (h hS))))
  rw [List.all_eq_true] at hd
  refine hd o ?_
  have : l[i]? = some o := by simpa using ho
  exact List.mem_of_getElem? this
end Go.Proofs.YtdjodigimhgklaaGreatDoor
