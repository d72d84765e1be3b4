import Derived.Test.YthalpnpnbclipaaB01
import Derived.Laws.CopyOwn
import Derived.Test.YthalpnpnbclipaaProg
import Derived.Outline
/- Plain facts on numbers in groups of seven bits; nothing of the program is named here. -/
namespace Go.Proofs.Ythalpnpnbclipaa
open Go.RowKit

/-- the number that the first k groups make -/
def accTo (l : List UInt8) : Nat → Int
  | 0 => 0
  | k + 1 => accTo l k + (bt l k % 128) * 128 ^ k
theorem accTo_succ (l : List UInt8) (k : Nat) : accTo l (k + 1) = accTo l k + (bt l k % 128) * 128 ^ k := rfl
theorem accTo_lo (l : List UInt8) (k : Nat) : 0 ≤ accTo l k := by
  induction k with
  | zero => simp [accTo]
  | succ k ih =>
    have h1 : (0 : Int) ≤ bt l k % 128 := by omega
    have h2 : (0 : Int) ≤ 128 ^ k := Int.pow_nonneg (by omega)
    have := Int.mul_nonneg h1 h2
    simp only [accTo]; omega
theorem accTo_hi (l : List UInt8) (k : Nat) : accTo l k < 128 ^ k := by
  induction k with
  | zero => simp [accTo]
  | succ k ih =>
    have h1 : bt l k % 128 ≤ 127 := by omega
    have h2 : (0 : Int) ≤ 128 ^ k := Int.pow_nonneg (by omega)
    have := Int.mul_le_mul_of_nonneg_right h1 h2
    simp only [accTo, Int.pow_succ]; omega

/-- byte c at place i cannot be of a short form -/
def brokenB (i : Nat) (c : Int) : Bool := (i == 9 && decide (1 < c)) || (decide (0 < i) && c == 0)

def numFrom (l : List UInt8) : Nat → Nat → Int × Nat × Int
  | 0, _ => (0, 0, 110)
  | f + 1, i => if brokenB i (bt l i) then (0, 0, 8) else if bt l i < 128 then (accTo l (i + 1), i + 1, 0) else numFrom l f (i + 1)
def num (l : List UInt8) : Int × Nat × Int := numFrom l l.length 0

theorem andNot128 (c : Int) (h0 : 0 ≤ c) (h1 : c ≤ 255) : bits .andNot .u8 c 128 = c % 128 := by
  have key : ∀ n : Fin 256, bits .andNot .u8 ((n.val : Nat) : Int) 128 = ((n.val : Nat) : Int) % 128 := by decide +kernel
  have h := key ⟨c.toNat, by omega⟩
  simpa [Int.toNat_of_nonneg h0] using h

theorem pow128 (k : Nat) : (128 : Int) ^ k = 2 ^ (7 * k) := by
  induction k with
  | zero => rfl
  | succ k ih => rw [Int.pow_succ, ih, show 7 * (k + 1) = 7 * k + 7 from by omega, Int.pow_add]; rfl

theorem pow128_le (k m : Nat) (h : k ≤ m) : (128 : Int) ^ k ≤ 128 ^ m := by
  have hn : (128 : Nat) ^ k ≤ 128 ^ m := Nat.pow_le_pow_right (by omega) h
  have e : ∀ j : Nat, (128 : Int) ^ j = ((128 ^ j : Nat) : Int) := by
    intro j
    simp
  rw [e, e]
  exact Int.ofNat_le.2 hn
theorem pow128_9 (k : Nat) (h : k ≤ 9) : (128 : Int) ^ k ≤ 9223372036854775808 := by
  have h9 : (128 : Int) ^ 9 = 9223372036854775808 := by decide
  rw [← h9]
  exact pow128_le k 9 h
theorem pow128_8 (k : Nat) (h : k ≤ 8) : (128 : Int) ^ k ≤ 72057594037927936 := by
  have h9 : (128 : Int) ^ 8 = 72057594037927936 := by decide
  rw [← h9]
  exact pow128_le k 8 h

theorem wraps64 (n : Int) (h₀ : 0 ≤ n) (h₁ : n < 2 ^ 64) : IntKind.u64.wrap n = n := by rw [IntKind.wrap_u64]; omega

/-- the group c at place k, laid where it belongs, fits 64 bits -/
theorem group_fits (c : Int) (k : Nat) (h0 : 0 ≤ c) (hk : k ≤ 9) (h9 : k = 9 → c ≤ 1) : 0 ≤ c % 128 * 128 ^ k ∧ c % 128 * 128 ^ k ≤ 9223372036854775808 := by
  have hp : (0 : Int) ≤ 128 ^ k := Int.pow_nonneg (by omega)
  have hc : (0 : Int) ≤ c % 128 := by omega
  refine ⟨Int.mul_nonneg hc hp, ?_⟩
  by_cases hk9 : k = 9
  · subst hk9
    have e : (128 : Int) ^ 9 = 9223372036854775808 := by decide
    have := h9 rfl
    rw [e]; omega
  · have h1 := pow128_8 k (by omega)
    have h2 : c % 128 ≤ 127 := by omega
    have := Int.mul_le_mul h2 h1 hp (by omega)
    omega

theorem or_comm64 (a b : Int) : bits .or .u64 a b = bits .or .u64 b a := by simp only [bits, BitVec.or_comm]

theorem or_step (l : List UInt8) (c : Int) (k : Nat) (h0 : 0 ≤ c) (h1 : c ≤ 255) (hk : k ≤ 9) (h9 : k = 9 → c ≤ 1) :
    bits BinOp.or IntKind.u64 (accTo l k) (IntKind.u64.wrap (IntKind.u64.wrap (bits BinOp.andNot IntKind.u8 c 128) * 2 ^ (7 * k))) = accTo l k + c % 128 * 128 ^ k := by
  have hf := group_fits c k h0 hk h9
  have a0 := accTo_lo l k
  have a1 := accTo_hi l k
  have p9 := pow128_9 k hk
  rw [andNot128 c h0 h1, wraps64 (c % 128) (by omega) (by omega), ← pow128, wraps64 _ hf.1 (by omega), or_comm64,
    bits_join .u64 64 (by decide) wraps64 (7 * k) (c % 128 * 128 ^ k) (accTo l k) hf.1 (by rw [← pow128]; exact Int.mul_emod_left _ _) (by omega) a0 (by rw [← pow128]; exact a1) (by omega)]
  omega

theorem add_step (l : List UInt8) (c : Int) (k : Nat) (h0 : 0 ≤ c) (hk : k ≤ 9) (h9 : k = 9 → c ≤ 1) :
    0 ≤ accTo l k + c % 128 * 128 ^ k ∧ accTo l k + c % 128 * 128 ^ k ≤ 18446744073709551615 := by
  have hf := group_fits c k h0 hk h9
  have a0 := accTo_lo l k
  have a1 := accTo_hi l k
  have p9 := pow128_9 k hk
  omega

theorem num_broken {l : List UInt8} {n k : Nat} (h : num l = numFrom l (n - k) k) (hlt : k < n) (hb : brokenB k (bt l k) = true) : num l = (0, 0, 8) := by
  rw [h, show n - k = (n - k - 1) + 1 from by omega, numFrom, if_pos hb]
theorem num_last {l : List UInt8} {n k : Nat} (h : num l = numFrom l (n - k) k) (hlt : k < n) (hb : brokenB k (bt l k) = false) (h8 : bt l k < 128) : num l = (accTo l (k + 1), k + 1, 0) := by
  rw [h, show n - k = (n - k - 1) + 1 from by omega, numFrom, if_neg (by simp [hb]), if_pos h8]
theorem num_next {l : List UInt8} {n k : Nat} (h : num l = numFrom l (n - k) k) (hlt : k < n) (hb : brokenB k (bt l k) = false) (h8 : ¬ bt l k < 128) : num l = numFrom l (n - (k + 1)) (k + 1) := by
  rw [h, show n - k = (n - (k + 1)) + 1 from by omega, numFrom, if_neg (by simp [hb]), if_neg h8]
theorem num_short {l : List UInt8} {n k : Nat} (h : num l = numFrom l (n - k) k) (hlt : ¬ k < n) : num l = (0, 0, 110) := by
  rw [h, show n - k = 0 from by omega, numFrom]

end Go.Proofs.Ythalpnpnbclipaa

/- The walk of the program's reading of a short form. -/
namespace Go.Proofs.Ythalpnpnbclipaa
open Go.RowKit

theorem ret3_of {p : Int × Nat × Int} {x : Int} {y : Int} {z : Int} (h : p = (x, y.toNat, z)) (h0 : 0 ≤ y) :
    Ending.returned (.tuple #[.int .u64 x, .int .i64 y, .int .i64 z]) = .returned (.tuple #[.int .u64 p.1, .int .i64 p.2.1, .int .i64 p.2.2]) := by
  rw [h]
  simp [Int.toNat_of_nonneg h0]

set_option maxHeartbeats 1000000 in
theorem shortForm_any (a : Option Addr) (n cap : Nat) (l : List UInt8) (w : World) (hb : Bytes w a n l) (hm : n ≤ maxLen) :
    Calls Try.prog 85 #[.slice a n cap] w fun e w' => e = .returned (.tuple #[.int .u64 (num l).1, .int .i64 (num l).2.1, .int .i64 (num l).2.2]) ∧ w' = w := by
  unfold maxLen at hm
  obtain ⟨hl, hc⟩ := hb
  have HN : Hid (num l = numFrom l (n - 0) 0) := by show num l = _; unfold num; rw [hl]; rfl
  go_enter Try.func85, Try.ntmps85
  go_wp2
  go_loop [5, 10] (fun x i => ∃ k : Nat, k ≤ n ∧ k ≤ 9 ∧ i = .int .i64 k ∧ x = .int .u64 (accTo l k) ∧ Hid (num l = numFrom l (n - k) k)) (fun _ i => n - (intOf i).toNat)
  case atStart => exact ⟨0, Nat.zero_le _, by omega, rfl, rfl, HN⟩
  case round =>
    clear HN
    obtain ⟨k, hk, hk9, rfl, rfl, HN⟩ := hrel
    by_cases hlt : k < n
    · obtain ⟨b, off, rfl, hcell⟩ := hc (by omega)
      have hck := hcell k hlt
      have b0 := bt_lo l k
      have b1 := bt_hi l k
      have h0 := accTo_lo l k
      clear hcell hc hl
      have HS : Hid (k ≤ 9 → (k = 9 → bt l k ≤ 1) → bits BinOp.or IntKind.u64 (accTo l k) (IntKind.u64.wrap (IntKind.u64.wrap (bits BinOp.andNot IntKind.u8 (bt l k) 128) * 2 ^ (7 * k))) = accTo l (k + 1)) :=
        fun h1 h2 => by rw [or_step l (bt l k) k b0 b1 h1 h2, accTo_succ]
      have NB : Hid (brokenB k (bt l k) = true → num l = (0, 0, 8)) := num_broken HN.out hlt
      have NL : Hid (brokenB k (bt l k) = false → bt l k < 128 → num l = (accTo l (k + 1), k + 1, 0)) := num_last HN.out hlt
      have NN : Hid (brokenB k (bt l k) = false → ¬ bt l k < 128 → num l = numFrom l (n - (k + 1)) (k + 1)) := num_next HN.out hlt
      clear HN
      generalize bt l k = c at *
      by_cases h9 : k = 9
      · subst h9
        by_cases hc1 : 1 < c
        · go_wp2
          go_ret3
          exact ⟨ret3_of (NB.out (by simp [brokenB]; omega)) (by omega), rfl⟩
        · by_cases hz : c = 0
          · subst hz
            go_wp2
            go_ret3
            exact ⟨ret3_of (NB.out (by simp [brokenB])) (by omega), rfl⟩
          · have cz : (c == 0) = false := by simpa using hz
            have h8 : c < 128 := by omega
            go_wp2
            go_ret3
            have hs := HS.out (by omega) (fun _ => by omega)
            rw [show (2 : Int) ^ (7 * 9) = 9223372036854775808 from by decide] at hs
            exact ⟨ret3_of (by rw [NL.out (by simp [brokenB]; omega) h8, hs]; rfl) (by omega), rfl⟩
      · have k9 : ((k : Int) == 9) = false := by simp; omega
        by_cases hk0 : ¬ 0 < k
        · by_cases h8 : c < 128
          · go_wp2
            go_ret3
            exact ⟨ret3_of (by rw [NL.out (by simp [brokenB]; omega) h8, HS.out (by omega) (by omega)]; congr 2) (by omega), rfl⟩
          · go_wp2
            go_round
            case rel => exact ⟨k + 1, by omega, by omega, by go_num, by rw [HS.out (by omega) (by omega)], NN.out (by simp [brokenB]; omega) h8⟩
            case measure => simp [intOf]; omega
        · have kp : 0 < k := by omega
          by_cases hz : c = 0
          · subst hz
            go_wp2
            go_ret3
            exact ⟨ret3_of (NB.out (by simp [brokenB]; omega)) (by omega), rfl⟩
          · have cz : (c == 0) = false := by simpa using hz
            by_cases h8 : c < 128
            · go_wp2
              go_ret3
              exact ⟨ret3_of (by rw [NL.out (by simp [brokenB]; omega) h8, HS.out (by omega) (by omega)]; congr 2) (by omega), rfl⟩
            · go_wp2
              go_round
              case rel => exact ⟨k + 1, by omega, by omega, by go_num, by rw [HS.out (by omega) (by omega)], NN.out (by simp [brokenB]; omega) h8⟩
              case measure => simp [intOf]; omega
    · have NS := num_short HN.out hlt
      clear HN
      have NS' : Hid (num l = (0, 0, 110)) := NS
      clear NS
      go_wp2
      go_ret3
      exact ⟨ret3_of (by rw [NS'.out]; rfl) (by omega), rfl⟩

end Go.Proofs.Ythalpnpnbclipaa

/- Plain facts on what the reading of a short form answers. -/
namespace Go.Proofs.Ythalpnpnbclipaa
open Go.RowKit

theorem numFrom_le (l : List UInt8) : ∀ f i, (numFrom l f i).2.1 ≤ f + i := by
  intro f
  induction f with
  | zero => intro i; simp [numFrom]
  | succ f ih =>
    intro i
    rw [numFrom]
    split
    · simp
    · split
      · simp only; omega
      · have := ih (i + 1); omega
theorem num_le (l : List UInt8) : (num l).2.1 ≤ l.length := by have := numFrom_le l l.length 0; unfold num; omega

theorem numFrom_pos (l : List UInt8) : ∀ f i, (numFrom l f i).2.2 = 0 → i + 1 ≤ (numFrom l f i).2.1 := by
  intro f
  induction f with
  | zero => intro i; simp [numFrom]
  | succ f ih =>
    intro i
    rw [numFrom]
    split
    · simp
    · split
      · simp
      · intro h; have := ih (i + 1) h; omega
theorem num_pos (l : List UInt8) (h : (num l).2.2 = 0) : 1 ≤ (num l).2.1 := by have := numFrom_pos l l.length 0 h; unfold num; omega

theorem numFrom_err (l : List UInt8) : ∀ f i, (numFrom l f i).2.2 = 0 ∨ ((numFrom l f i).1 = 0 ∧ (numFrom l f i).2.1 = 0 ∧ ((numFrom l f i).2.2 = 8 ∨ (numFrom l f i).2.2 = 110)) := by
  intro f
  induction f with
  | zero => intro i; simp [numFrom]
  | succ f ih =>
    intro i
    rw [numFrom]
    split
    · simp
    · split
      · simp
      · exact ih (i + 1)
theorem num_err (l : List UInt8) : (num l).2.2 = 0 ∨ ((num l).1 = 0 ∧ (num l).2.1 = 0 ∧ ((num l).2.2 = 8 ∨ (num l).2.2 = 110)) := numFrom_err l l.length 0

/-- the number fits 64 bits -/
theorem numFrom_fits (l : List UInt8) : ∀ f i, i ≤ 9 → 0 ≤ (numFrom l f i).1 ∧ (numFrom l f i).1 ≤ 18446744073709551615 := by
  intro f
  induction f with
  | zero => intro i _; simp [numFrom]
  | succ f ih =>
    intro i hi
    rw [numFrom]
    split
    · simp
    · rename_i hb
      have hb' : brokenB i (bt l i) = false := by simpa using hb
      split
      · rename_i h8
        simp only [accTo_succ]
        refine add_step l (bt l i) i (bt_lo l i) hi (fun h9 => ?_)
        subst h9
        simp [brokenB] at hb'
        omega
      · rename_i h8
        refine ih (i + 1) ?_
        by_cases h9 : i = 9
        · subst h9
          simp [brokenB] at hb'
          omega
        · omega
theorem num_fits (l : List UInt8) : 0 ≤ (num l).1 ∧ (num l).1 ≤ 18446744073709551615 := numFrom_fits l l.length 0 (by omega)

end Go.Proofs.Ythalpnpnbclipaa

/- The walks of a Reader's methods that need no number's form: Byte, Raw, Err, Left, End; and of Read itself. -/
namespace Go.Proofs.Ythalpnpnbclipaa
open Go.RowKit

theorem err_nil (w : World) : Calls Try.prog 46 #[.pointer none] w fun e w' => e = .returned (.int .i64 1) ∧ w' = w := by
  go_enter Try.func46, Try.ntmps46
  go_wp2
  go_ret
  exact ⟨rfl, rfl⟩

theorem err_any (w : World) (r : Nat) (x : Int) (h : w.cell? ⟨r, 1, none⟩ = some (.int .i64 x)) : Calls Try.prog 46 #[.pointer (some ⟨r, 0, none⟩)] w fun e w' => e = .returned (.int .i64 x) ∧ w' = w := by
  go_enter Try.func46, Try.ntmps46
  go_wp2
  go_ret
  exact ⟨rfl, rfl⟩

theorem left_nil (w : World) : Calls Try.prog 43 #[.pointer none] w fun e w' => e = .returned (.int .i64 0) ∧ w' = w := by
  go_enter Try.func43, Try.ntmps43
  go_wp2
  go_ret
  exact ⟨rfl, rfl⟩

theorem left_any (w : World) (r g p m : Nat) (x : Int) (l : List UInt8) (h : Rd w r g p x l) (hm : l.length = p + m) :
    Calls Try.prog 43 #[.pointer (some ⟨r, 0, none⟩)] w fun e w' => e = .returned (.int .i64 m) ∧ ∃ k, w' = w.drewN k := by
  have Hm : Hid (l.length = p + m) := hm
  clear hm
  go_enter Try.func43, Try.ntmps43
  go_wp2_with fail
  refine (rest_any _ r g p m x l h Hm.out).mono ?_
  rintro e w1 ⟨q, k, rfl, hb, rfl⟩
  go_wp2
  go_ret
  exact ⟨rfl, _, rfl⟩

theorem end_nil (w : World) : Calls Try.prog 73 #[.pointer none] w fun e w' => e = .returned (.int .i64 1) ∧ w' = w := by
  go_enter Try.func73, Try.ntmps73
  go_wp2_with fail
  refine (err_nil _).mono ?_
  rintro e w1 ⟨rfl, rfl⟩
  go_wp2
  go_ret
  exact ⟨rfl, rfl⟩

theorem end_err (w : World) (r : Nat) (x : Int) (h : w.cell? ⟨r, 1, none⟩ = some (.int .i64 x)) (hx : (x != 0) = true) : Calls Try.prog 73 #[.pointer (some ⟨r, 0, none⟩)] w fun e w' => e = .returned (.int .i64 x) ∧ w' = w := by
  go_enter Try.func73, Try.ntmps73
  go_wp2_with fail
  refine (err_any _ r x h).mono ?_
  rintro e w1 ⟨rfl, rfl⟩
  go_wp2
  go_ret
  exact ⟨rfl, rfl⟩

theorem end_ok (w : World) (r g p m : Nat) (l : List UInt8) (h : Rd w r g p 0 l) (hm : l.length = p + m) :
    Calls Try.prog 73 #[.pointer (some ⟨r, 0, none⟩)] w fun e w' => e = .returned (.int .i64 (if 0 < m then 111 else 0)) ∧ ∃ k, w' = w.drewN k := by
  have Hm : Hid (l.length = p + m) := hm
  clear hm
  by_cases h0 : 0 < m
  · have i1 : (0 : Int) < (m : Int) := by omega
    rw [if_pos h0]
    go_enter Try.func73, Try.ntmps73
    go_wp2_with fail
    refine (err_any _ r 0 h.c1).mono ?_
    rintro e w1 ⟨rfl, rfl⟩
    go_wp2_with fail
    refine (left_any _ r g p m 0 l h Hm.out).mono ?_
    rintro e w1 ⟨rfl, k, rfl⟩
    go_wp2
    go_ret
    exact ⟨rfl, _, rfl⟩
  · have i1 : ¬ (0 : Int) < (m : Int) := by omega
    rw [if_neg h0]
    go_enter Try.func73, Try.ntmps73
    go_wp2_with fail
    refine (err_any _ r 0 h.c1).mono ?_
    rintro e w1 ⟨rfl, rfl⟩
    go_wp2_with fail
    refine (left_any _ r g p m 0 l h Hm.out).mono ?_
    rintro e w1 ⟨rfl, k, rfl⟩
    go_wp2
    go_ret
    exact ⟨rfl, _, rfl⟩

theorem byte_nil (w : World) : Calls Try.prog 69 #[.pointer none] w fun e w' => e = .returned (.int .u8 0) ∧ w' = w := by
  go_enter Try.func69, Try.ntmps69
  go_wp2_with fail
  refine (take_nil _ _).mono ?_
  rintro e w1 ⟨rfl, rfl⟩
  go_wp2
  go_ret
  exact ⟨rfl, rfl⟩

theorem byte_stuck (w : World) (r g p : Nat) (x : Int) (l : List UInt8) (h : Rd w r g p x l) (hx : (x != 0) = true) :
    Calls Try.prog 69 #[.pointer (some ⟨r, 0, none⟩)] w fun e w' => e = .returned (.int .u8 0) ∧ w' = w := by
  go_enter Try.func69, Try.ntmps69
  go_wp2_with fail
  refine (take_stuck _ r g p x _ l h hx).mono ?_
  rintro e w1 ⟨rfl, rfl⟩
  go_wp2
  go_ret
  exact ⟨rfl, rfl⟩

theorem byte_short (w : World) (r g p : Nat) (l : List UInt8) (h : Rd w r g p 0 l) (hp : l.length = p) :
    Calls Try.prog 69 #[.pointer (some ⟨r, 0, none⟩)] w fun e w' => e = .returned (.int .u8 0) ∧ Rd w' r g p 110 l ∧ w.grownBy w' (some r) := by
  have Hm : Hid (l.length = p + 0) := hp
  clear hp
  go_enter Try.func69, Try.ntmps69
  go_wp2_with fail
  refine (take_short _ r g p 0 _ l h Hm.out (by simp)).mono ?_
  rintro e w1 ⟨rfl, hr, hg⟩
  go_wp2
  go_ret
  exact ⟨rfl, hr, hg⟩

theorem byte_yes (w : World) (r g p : Nat) (l : List UInt8) (h : Rd w r g p 0 l) (hp : p < l.length) :
    Calls Try.prog 69 #[.pointer (some ⟨r, 0, none⟩)] w fun e w' => e = .returned (.int .u8 (bt l p)) ∧ Rd w' r g (p + 1) 0 l ∧ w.grownBy w' (some r) := by
  go_enter Try.func69, Try.ntmps69
  go_wp2_with fail
  refine (take_yes _ r g p (l.length - p) 1 l h (by omega) (by omega)).mono ?_
  rintro e w1 ⟨a, c, rfl, hb, hr, hg⟩
  obtain ⟨b, off, rfl, hc⟩ := hb.2 (by omega)
  have hc0 := hc 0 (by omega)
  rw [bt_take _ _ _ (by omega), bt_drop] at hc0
  simp only [Nat.add_zero] at hc0
  clear hc hb
  go_wp2
  go_ret
  exact ⟨rfl, hr, hg⟩

end Go.Proofs.Ythalpnpnbclipaa

/- Bytes turned into a string; what the program says of a byte's type. -/
namespace Go.Proofs.Ythalpnpnbclipaa
open Go.RowKit

theorem Try.info5 : (Try.prog.info? 5).map (fun i => (i.zero, i.size, i.bytes)) = some (some (.int .u8 0), 1, 1) := by kernel_rfl

theorem fold_push (l : List UInt8) : ∀ acc : ByteArray, (l.map fun c => (c.toNat : Int)).foldl (fun r n => r.push (UInt8.ofNat n.toNat)) acc = ⟨acc.data ++ l.toArray⟩ := by
  induction l with
  | nil => intro acc; simp
  | cons c l ih =>
    intro acc
    rw [List.map_cons, List.foldl_cons, ih]
    congr 1
    simp [ByteArray.push]

theorem run_string (w : World) (a : Option Addr) (n cap : Nat) (l : List UInt8) (hb : Bytes w a n l) :
    (convert 30 9 (.slice a n cap)).run Try.prog w = .ok (.string ⟨l.toArray⟩) w := by
  rw [run_convert_bytes_string w 30 9 5 a n cap Try.underlying30 Try.underlying5 Try.underlying9]
  cases a with
  | none =>
    have h0 : n = 0 := by
      by_cases h : n = 0
      · exact h
      · obtain ⟨b, off, hx, _⟩ := hb.2 (by omega)
        cases hx
    have hl : l = [] := List.eq_nil_of_length_eq_zero (by rw [hb.1]; exact h0)
    subst hl
    simp [Conv.bytesToString, Sem.run_pure]
    rfl
  | some x =>
    have hld : (loadCells x n).run Try.prog w = .ok ((l.map fun c => (c.toNat : Int)).map (Value.int .u8)).toArray w := by
      have hrun := run_loadCells_list (P := Try.prog) w x (cellsOf l) (fun j v hj => ?_)
      · rw [cellsOf_length, hb.1] at hrun
        rw [hrun]
        simp [cellsOf]
      · have hjl : j < l.length := by have := (List.getElem?_eq_some_iff.1 hj).1; rw [cellsOf_length] at this; exact this
        have hl := hb.1
        obtain ⟨b, off, hx, hc⟩ := hb.2 (by omega)
        obtain rfl := Option.some.inj hx
        rw [cellsOf_get l j hjl] at hj
        rw [Addr.add_lit, hc j (by omega)]
        exact hj
    rw [run_bytesToString w x n cap _ hld, fold_push]
    simp

end Go.Proofs.Ythalpnpnbclipaa
