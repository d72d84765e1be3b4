import Derived.Test.YtfkepoibgmljkaaB06
import Derived.Test.YtfkepoibgmljkaaB01
import Derived.Room.AppendFits
import Derived.Test.YtfkepoibgmljkaaB05
/- The walks of the program's writing: appendShort, shortSize, PutUint, PutWord, PutText. -/
namespace Go.Proofs.Ytfkepoibgmljkaa
open Go.RowKit

set_option maxRecDepth 20000 in
set_option maxHeartbeats 1000000 in
theorem appendShort_fits (base g n cap x : Nat) (l : List UInt8) (w : World) (hx : x < 18446744073709551616) (hn : n + (short x).length ≤ cap)
    (hown : w.ownsRow base 5 1 (.slice (some ⟨g, 0, none⟩) n cap) n (cellsOf l)) :
    Calls Try.prog 57 #[.slice (some ⟨g, 0, none⟩) n cap, .int .u64 x] w fun e w' => e = .returned (.slice (some ⟨g, 0, none⟩) (n + (short x).length) cap) ∧
      w'.ownsRow base 5 1 (.slice (some ⟨g, 0, none⟩) (n + (short x).length) cap) (n + (short x).length) (cellsOf (l ++ short x)) ∧ w.grownBy w' (some g) := by
  obtain ⟨i0, hi, hz0, hz1, hz2⟩ := info_parts Try.info5
  have hu := Try.underlying23
  obtain ⟨S, hS⟩ : ∃ S, S = short x := ⟨_, rfl⟩
  rw [← hS] at hn ⊢
  have HS : Hid (S = [] ++ shortF (9 - 0) x) := by rw [hS]; rfl
  clear hS
  go_enter Try.func57, Try.ntmps57
  go_wp2
  go_loopw [0, 1] (fun v z wr => ∃ (k y m : Nat) (d : List UInt8), k ≤ 9 ∧ m = n + d.length ∧ Hid (y * 128 ^ k < 18446744073709551616) ∧ Hid (S = d ++ shortF (9 - k) y) ∧ z = .int .u64 y ∧ v = .slice (some ⟨g, 0, none⟩) m cap ∧
      wr.ownsRow base 5 1 (.slice (some ⟨g, 0, none⟩) m cap) m (cellsOf (l ++ d)) ∧ w.grownBy wr (some g)) (fun _ z _ => (intOf z).toNat)
  case atStart => exact ⟨0, x, n, [], by omega, by simp, by show _ < _; omega, HS, rfl, rfl, by simpa using hown, World.grownBy.refl _ _⟩
  case round =>
    clear HS
    obtain ⟨k, y, m, d, hk, hm, HY, HS, rfl, rfl, hown', hgr⟩ := hrel
    have Hm : Hid (m = n + d.length) := hm
    clear hm hown
    by_cases hy : 128 ≤ y
    · have hk8 : k ≤ 8 := by
        by_cases h9 : k = 9
        · subst h9; have := HY.out; omega
        · omega
      have hsl := shortF_high (8 - k) y (by omega)
      rw [show 8 - k + 1 = 9 - k from by omega] at hsl
      have hfit : m + 1 ≤ cap := by
        have h1 := HS.out; have h2 := Hm.out
        rw [hsl] at h1
        rw [h1] at hn
        simp at hn; omega
      have HL : Hid (shortF (9 - k) y = UInt8.ofNat (y % 128 + 128) :: shortF (8 - k) (y / 128)) := hsl
      clear hsl
      have Hsn : Hid (∀ z : Int, z = bits BinOp.or IntKind.u8 ((y : Int) % 256) 128 → cellsOf (l ++ d) ++ [Value.int .u8 z] = cellsOf (l ++ (d ++ [UInt8.ofNat (y % 128 + 128)]))) := by
        intro z hz
        rw [cellsOf_snoc (l ++ d) (UInt8.ofNat (y % 128 + 128)) z (by rw [hz, or128]), List.append_assoc]
      go_wp2_with (at_builtin; refine wpList_push_fits _ rfl _ _ rfl base g m cap _ rfl rfl hown' hfit ?_; intro w1 hown1 hgr1)
      rw [Hsn.out _ rfl] at hown1
      go_roundw
      case rel =>
        refine ⟨k + 1, y / 128, m + 1, d ++ [UInt8.ofNat (y % 128 + 128)], by omega, by have := Hm.out; simp; omega, ?_, ?_, by go_num, rfl, hown1, grownBy_trans hgr hgr1⟩
        · have h1 := HY.out
          have h2 : y / 128 * 128 ^ (k + 1) ≤ y * 128 ^ k := by
            rw [Nat.pow_succ, Nat.mul_comm (128 ^ k) 128, ← Nat.mul_assoc]
            exact Nat.mul_le_mul_right _ (Nat.div_mul_le_self y 128)
          show _ < _
          omega
        · have h1 := HS.out
          rw [HL.out] at h1
          show S = _
          rw [h1, show 9 - (k + 1) = 8 - k from by omega]
          simp
      case measure => simp [intOf]; omega
    · have hsl := shortF_low (9 - k) y (by omega)
      have HL : Hid (S = d ++ [UInt8.ofNat y]) := by have := HS.out; rw [hsl] at this; exact this
      clear hsl
      have hfit : m + 1 ≤ cap := by
        have h1 := HL.out; have h2 := Hm.out
        rw [h1] at hn
        simp at hn; omega
      have Hsn : Hid (∀ z : Int, z = (y : Int) → cellsOf (l ++ d) ++ [Value.int .u8 z] = cellsOf (l ++ (d ++ [UInt8.ofNat y]))) := by
        intro z hz
        rw [cellsOf_snoc (l ++ d) (UInt8.ofNat y) z (by rw [hz, ← low8]; omega), List.append_assoc]
      go_wp2_with (at_builtin; refine wpList_push_fits _ rfl _ _ rfl base g m cap _ rfl rfl hown' hfit ?_; intro w1 hown1 hgr1)
      rw [Hsn.out _ rfl] at hown1
      go_ret
      have e1 : m + 1 = n + S.length := by have h1 := HL.out; have h2 := Hm.out; rw [h1]; simp; omega
      rw [← HL.out, e1] at hown1
      rw [← e1] at hown1 ⊢
      exact ⟨rfl, hown1, grownBy_trans hgr hgr1⟩

/-- how many bytes the short form has -/
theorem shortSize_any (x : Nat) (w : World) (hx : x < 18446744073709551616) :
    Calls Try.prog 58 #[.int .u64 x] w fun e w' => e = .returned (.int .i64 (short x).length) ∧ w' = w := by
  obtain ⟨S, hS⟩ : ∃ S, S = (short x).length := ⟨_, rfl⟩
  rw [← hS]
  have HS : Hid (S = 0 + (shortF (9 - 0) x).length) := by show S = _; rw [hS]; simp [short]
  clear hS
  go_enter Try.func58, Try.ntmps58
  go_wp2
  go_loop [0, 3] (fun z q => ∃ (k y : Nat), k ≤ 9 ∧ Hid (y * 128 ^ k < 18446744073709551616) ∧ Hid (S = k + (shortF (9 - k) y).length) ∧ z = .int .u64 (y / 128 : Nat) ∧ q = .int .i64 (k + 1 : Nat)) (fun z _ => (intOf z).toNat)
  case atStart => exact ⟨0, x, by omega, by show _ < _; omega, HS, by go_num, rfl⟩
  case round =>
    clear HS
    obtain ⟨k, y, hk, HY, HS, rfl, rfl⟩ := hrel
    by_cases hy : 128 ≤ y
    · have hk8 : k ≤ 8 := by
        by_cases h9 : k = 9
        · subst h9; have := HY.out; omega
        · omega
      have hsl := shortF_high (8 - k) y (by omega)
      rw [show 8 - k + 1 = 9 - k from by omega] at hsl
      have HL : Hid (S = k + 1 + (shortF (9 - (k + 1)) (y / 128)).length) := by
        have := HS.out
        rw [hsl] at this
        show S = _
        rw [this, show 9 - (k + 1) = 8 - k from by omega]
        simp; omega
      have h0 : 0 < y / 128 := by omega
      have H2 : Hid (y / 128 * 128 ^ (k + 1) < 18446744073709551616) := by
        have h1 := HY.out
        have h2 : y / 128 * 128 ^ (k + 1) ≤ y * 128 ^ k := by
          rw [Nat.pow_succ, Nat.mul_comm (128 ^ k) 128, ← Nat.mul_assoc]
          exact Nat.mul_le_mul_right _ (Nat.div_mul_le_self y 128)
        show _ < _
        omega
      have hyb : y / 128 < y := by omega
      clear hsl HS HY
      generalize y / 128 = u at *
      go_wp2
      go_round
      case rel => exact ⟨k + 1, u, by omega, H2, HL, by go_num, by go_num⟩
      case measure => simp [intOf]; omega
    · have hsl := shortF_low (9 - k) y (by omega)
      have HL : Hid (S = k + 1) := by have := HS.out; rw [hsl] at this; exact this
      have h0 : y / 128 = 0 := by omega
      clear hsl HS
      rw [h0]
      go_wp2
      go_ret
      rw [HL.out]
      exact ⟨rfl, rfl⟩

theorem putUint_any (a : Option Addr) (n cap x : Nat) (l : List UInt8) (w : World) (hb : Bytes w a n l) (hn : n ≤ 281474976710640) (hx : x < 18446744073709551616) :
    Calls Try.prog 44 #[.slice a n cap, .int .u64 x] w fun e w' => ∃ g c, e = .returned (.slice (some ⟨g, 0, none⟩) (n + (short x).length) c) ∧
      w'.ownsRow w.heap.size 5 1 (.slice (some ⟨g, 0, none⟩) (n + (short x).length) c) (n + (short x).length) (cellsOf (l ++ short x)) ∧ w.grownBy w' none := by
  have hs := short_len x
  go_enter Try.func44, Try.ntmps44
  go_wp2_with fail
  refine (shortSize_any x _ hx).mono ?_
  rintro e w1 ⟨rfl, rfl⟩
  go_wp2_with fail
  refine (withRoom_any a n cap (short x).length l _ hb (by omega)).mono ?_
  rintro e w2 ⟨rfl, hown, hg⟩
  go_wp2_with fail
  refine (appendShort_fits _ _ n _ x l w2 hx (Nat.le_refl _) hown).mono ?_
  rintro e w3 ⟨rfl, hown3, hg3⟩
  go_wp2
  go_ret
  exact ⟨_, _, rfl, hown3, grownBy_of_below (((Below.refl _ _).grown hg (Nat.le_refl _) (by simp)).grown hg3 hg.size (by simp))⟩

set_option maxRecDepth 20000 in
set_option maxHeartbeats 1000000 in
theorem putWord_any (a : Option Addr) (n cap x : Nat) (l : List UInt8) (w : World) (hb : Bytes w a n l) (hn : n ≤ 281474976710640) (_hx : x < 18446744073709551616) :
    Calls Try.prog 46 #[.slice a n cap, .int .u64 x] w fun e w' => ∃ g c, e = .returned (.slice (some ⟨g, 0, none⟩) (n + 8) c) ∧
      w'.ownsRow w.heap.size 5 1 (.slice (some ⟨g, 0, none⟩) (n + 8) c) (n + 8) (cellsOf (l ++ wide x)) ∧ w.grownBy w' none := by
  go_enter Try.func46, Try.ntmps46
  go_wp2_with fail
  refine (withRoom_any a n cap 8 l _ hb (by omega)).mono ?_
  rintro e w2 ⟨rfl, hown, hg⟩
  go_wp2_with fail
  go_loopw [5, 6] (fun v s wr => ∃ k : Nat, k ≤ 8 ∧ v = .slice (some ⟨w.heap.size, 0, none⟩) (n + k) (n + 8) ∧ s = .int .i64 (56 - 8 * (k : Int)) ∧
      wr.ownsRow w.heap.size 5 1 (.slice (some ⟨w.heap.size, 0, none⟩) (n + k) (n + 8)) (n + k) (cellsOf (l ++ wideTo x k)) ∧ Below w.heap.size w wr) (fun _ s _ => (intOf s + 8).toNat)
  case atStart => exact ⟨0, by omega, rfl, rfl, by simpa [wideTo] using hown, (Below.refl _ _).grown hg (Nat.le_refl _) (by simp)⟩
  case round =>
    clear hown hg hb
    obtain ⟨k, hk, rfl, rfl, hown', hB⟩ := hrel
    by_cases hk8 : k < 8
    · have i1 : (0 : Int) ≤ 56 - 8 * (k : Int) := by omega
      have i2 : 56 - 8 * (k : Int) < 64 := by omega
      go_wp2_with (at_builtin; refine wpList_push_fits _ rfl _ _ rfl w.heap.size w.heap.size (n + k) (n + 8) _ rfl rfl hown' (by omega) ?_; intro w1 hown1 hgr1)
      rw [cellsOf_snoc (l ++ wideTo x k) _ _ (wide_byte x k hk8), List.append_assoc, ← wideTo_succ] at hown1
      go_roundw
      case rel => exact ⟨k + 1, by omega, rfl, by go_num, hown1, hB.grown hgr1 hB.size (by simp)⟩
      case measure => simp [intOf]; omega
    · obtain rfl : k = 8 := by omega
      go_wp2
      go_ret
      exact ⟨_, _, rfl, hown', grownBy_of_below hB⟩

theorem strCells_eq (s : ByteArray) : Lib.strCells s = cellsOf s.data.toList := rfl

end Go.Proofs.Ytfkepoibgmljkaa

/- The walk of the program's reading of a short form. -/
namespace Go.Proofs.Ytfkepoibgmljkaa
open Go.RowKit

theorem ret3_of {p : Int × Nat × Int} {x : Int} {y : Int} {z : Int} (h : p = (x, y.toNat, z)) (h0 : 0 ≤ y) :
    Ending.returned (.tuple #[.int .u64 x, .int .i64 y, .int .i64 z]) = .returned (.tuple #[.int .u64 p.1, .int .i64 p.2.1, .int .i64 p.2.2]) := by
  rw [h]
  simp [Int.toNat_of_nonneg h0]

set_option maxHeartbeats 1000000 in
theorem shortForm_any (a : Option Addr) (n cap : Nat) (l : List UInt8) (w : World) (hb : Bytes w a n l) (hm : n ≤ maxLen) :
    Calls Try.prog 52 #[.slice a n cap] w fun e w' => e = .returned (.tuple #[.int .u64 (num l).1, .int .i64 (num l).2.1, .int .i64 (num l).2.2]) ∧ w' = w := by
  unfold maxLen at hm
  obtain ⟨hl, hc⟩ := hb
  have HN : Hid (num l = numFrom l (n - 0) 0) := by show num l = _; unfold num; rw [hl]; rfl
  go_enter Try.func52, Try.ntmps52
  go_wp2
  go_loop [5, 10] (fun x i => ∃ k : Nat, k ≤ n ∧ k ≤ 9 ∧ i = .int .i64 k ∧ x = .int .u64 (accTo l k) ∧ Hid (num l = numFrom l (n - k) k)) (fun _ i => n - (intOf i).toNat)
  case atStart => exact ⟨0, Nat.zero_le _, by omega, rfl, rfl, HN⟩
  case round =>
    clear HN
    obtain ⟨k, hk, hk9, rfl, rfl, HN⟩ := hrel
    by_cases hlt : k < n
    · obtain ⟨b, off, rfl, hcell⟩ := hc (by omega)
      have hck := hcell k hlt
      have b0 := bt_lo l k
      have b1 := bt_hi l k
      have h0 := accTo_lo l k
      clear hcell hc hl
      have HS : Hid (k ≤ 9 → (k = 9 → bt l k ≤ 1) → bits BinOp.or IntKind.u64 (accTo l k) (IntKind.u64.wrap (IntKind.u64.wrap (bits BinOp.andNot IntKind.u8 (bt l k) 128) * 2 ^ (7 * k))) = accTo l (k + 1)) :=
        fun h1 h2 => by rw [or_step l (bt l k) k b0 b1 h1 h2, accTo_succ]
      have NB : Hid (brokenB k (bt l k) = true → num l = (0, 0, 8)) := num_broken HN.out hlt
      have NL : Hid (brokenB k (bt l k) = false → bt l k < 128 → num l = (accTo l (k + 1), k + 1, 0)) := num_last HN.out hlt
      have NN : Hid (brokenB k (bt l k) = false → ¬ bt l k < 128 → num l = numFrom l (n - (k + 1)) (k + 1)) := num_next HN.out hlt
      clear HN
      generalize bt l k = c at *
      by_cases h9 : k = 9
      · subst h9
        by_cases hc1 : 1 < c
        · go_wp2
          go_ret3
          exact ⟨ret3_of (NB.out (by simp [brokenB]; omega)) (by omega), rfl⟩
        · by_cases hz : c = 0
          · subst hz
            go_wp2
            go_ret3
            exact ⟨ret3_of (NB.out (by simp [brokenB])) (by omega), rfl⟩
          · have cz : (c == 0) = false := by simpa using hz
            have h8 : c < 128 := by omega
            go_wp2
            go_ret3
            have hs := HS.out (by omega) (fun _ => by omega)
            rw [show (2 : Int) ^ (7 * 9) = 9223372036854775808 from by decide] at hs
            exact ⟨ret3_of (by rw [NL.out (by simp [brokenB]; omega) h8, hs]; rfl) (by omega), rfl⟩
      · have k9 : ((k : Int) == 9) = false := by simp; omega
        by_cases hk0 : ¬ 0 < k
        · by_cases h8 : c < 128
          · go_wp2
            go_ret3
            exact ⟨ret3_of (by rw [NL.out (by simp [brokenB]; omega) h8, HS.out (by omega) (by omega)]; congr 2) (by omega), rfl⟩
          · go_wp2
            go_round
            case rel => exact ⟨k + 1, by omega, by omega, by go_num, by rw [HS.out (by omega) (by omega)], NN.out (by simp [brokenB]; omega) h8⟩
            case measure => simp [intOf]; omega
        · have kp : 0 < k := by omega
          by_cases hz : c = 0
          · subst hz
            go_wp2
            go_ret3
            exact ⟨ret3_of (NB.out (by simp [brokenB]; omega)) (by omega), rfl⟩
          · have cz : (c == 0) = false := by simpa using hz
            by_cases h8 : c < 128
            · go_wp2
              go_ret3
              exact ⟨ret3_of (by rw [NL.out (by simp [brokenB]; omega) h8, HS.out (by omega) (by omega)]; congr 2) (by omega), rfl⟩
            · go_wp2
              go_round
              case rel => exact ⟨k + 1, by omega, by omega, by go_num, by rw [HS.out (by omega) (by omega)], NN.out (by simp [brokenB]; omega) h8⟩
              case measure => simp [intOf]; omega
    · have NS := num_short HN.out hlt
      clear HN
      have NS' : Hid (num l = (0, 0, 110)) := NS
      clear NS
      go_wp2
      go_ret3
      exact ⟨ret3_of (by rw [NS'.out]; rfl) (by omega), rfl⟩

end Go.Proofs.Ytfkepoibgmljkaa
