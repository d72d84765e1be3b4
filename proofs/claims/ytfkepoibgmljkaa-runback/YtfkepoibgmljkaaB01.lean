import Derived.WalkKit
import Derived.Test.YtfkepoibgmljkaaProg
import Derived.Outline
/- Plain facts on bytes and on rows of cells that hold them; nothing of the program is named here. -/
namespace Go.Proofs.Ytfkepoibgmljkaa
open Go.RowKit

/-- byte i of a list, as a number -/
def bt (l : List UInt8) (i : Nat) : Int := ((l.getD i 0).toNat : Int)
theorem bt_lo (l : List UInt8) (i : Nat) : 0 ≤ bt l i := by unfold bt; omega
theorem bt_hi (l : List UInt8) (i : Nat) : bt l i ≤ 255 := by
  unfold bt
  have := (l.getD i 0).toNat_lt
  omega
theorem bt_cons (c : UInt8) (l : List UInt8) (i : Nat) : bt (c :: l) (i + 1) = bt l i := by simp [bt]
theorem bt_drop (l : List UInt8) (k i : Nat) : bt (l.drop k) i = bt l (k + i) := by simp [bt, List.getD]
theorem bt_take (l : List UInt8) (k i : Nat) (h : i < k) : bt (l.take k) i = bt l i := by simp [bt, List.getD, h]

/-- a slice value of n bytes that leads to the list l -/
def Bytes (w : World) (a : Option Addr) (n : Nat) (l : List UInt8) : Prop :=
  l.length = n ∧ (0 < n → ∃ b off, a = some ⟨b, off, none⟩ ∧ ∀ i, i < n → w.cell? ⟨b, off + i, none⟩ = some (.int .u8 (bt l i)))

theorem Bytes.take {w : World} {a : Option Addr} {n : Nat} {l : List UInt8} (h : Bytes w a n l) (k : Nat) (hk : k ≤ n) : Bytes w a k (l.take k) := by
  refine ⟨by have := h.1; simp; omega, fun hp => ?_⟩
  obtain ⟨b, off, rfl, hc⟩ := h.2 (by omega)
  exact ⟨b, off, rfl, fun i hi => by rw [bt_take _ _ _ hi]; exact hc i (by omega)⟩

/-- the cells of a list of bytes -/
def cellsOf (l : List UInt8) : List Value := l.map fun c => Value.int .u8 (c.toNat : Int)
theorem cellsOf_length (l : List UInt8) : (cellsOf l).length = l.length := by simp [cellsOf]
theorem cellsOf_get (l : List UInt8) (i : Nat) (h : i < l.length) : (cellsOf l)[i]? = some (.int .u8 (bt l i)) := by
  simp [cellsOf, bt, h]
theorem cellsOf_one (l : List UInt8) : ∀ u ∈ cellsOf l, u.oneCell' = true := by
  intro u hu
  obtain ⟨_, _, rfl⟩ := List.mem_map.1 hu
  rfl
theorem cellsOf_append (l m : List UInt8) : cellsOf (l ++ m) = cellsOf l ++ cellsOf m := by simp [cellsOf]

end Go.Proofs.Ytfkepoibgmljkaa

/- The walk of the program's Hash. -/
namespace Go.Proofs.Ytfkepoibgmljkaa
open Go.RowKit

/-- the hash of the first k bytes of l -/
def hashTo (l : List UInt8) : Nat → Int
  | 0 => 14695981039346656037
  | k + 1 => IntKind.u64.wrap (bits BinOp.xor IntKind.u64 (hashTo l k) (bt l k) * 1099511628211)
theorem hashTo_zero (l : List UInt8) : hashTo l 0 = 14695981039346656037 := rfl
theorem hashTo_succ (l : List UInt8) (k : Nat) : hashTo l (k + 1) = IntKind.u64.wrap (bits BinOp.xor IntKind.u64 (hashTo l k) (bt l k) * 1099511628211) := rfl
theorem hashTo_lo (l : List UInt8) (k : Nat) : 0 ≤ hashTo l k := by
  cases k with
  | zero => rw [hashTo_zero]; omega
  | succ k => rw [hashTo_succ]; rw [IntKind.wrap_u64]; omega
theorem hashTo_hi (l : List UInt8) (k : Nat) : hashTo l k ≤ 18446744073709551615 := by
  cases k with
  | zero => rw [hashTo_zero]; omega
  | succ k => rw [hashTo_succ]; rw [IntKind.wrap_u64]; omega

set_option maxHeartbeats 400000 in
theorem hash_any (a : Option Addr) (n cap : Nat) (l : List UInt8) (w : World) (hb : Bytes w a n l) (hm : n ≤ maxLen) :
    Calls Try.prog 41 #[.slice a n cap] w fun e w' => e = .returned (.int .u64 (hashTo l n)) ∧ w' = w := by
  unfold maxLen at hm
  obtain ⟨hl, hc⟩ := hb
  go_enter Try.func41, Try.ntmps41
  go_wp2
  go_loop [3, 8] (fun h i => ∃ k : Nat, k ≤ n ∧ i = .int .i64 k ∧ h = .int .u64 (hashTo l k)) (fun _ i => n - (intOf i).toNat)
  case atStart => exact ⟨0, Nat.zero_le _, rfl, rfl⟩
  case round =>
    obtain ⟨k, hk, rfl, rfl⟩ := hrel
    by_cases hlt : k < n
    · obtain ⟨b, off, rfl, hcell⟩ := hc (by omega)
      have hck := hcell k hlt
      have b0 := bt_lo l k
      have b1 := bt_hi l k
      have h0 := hashTo_lo l k
      have h1 := hashTo_hi l k
      clear hcell hc
      go_wp2
      go_round
      case rel => exact ⟨k + 1, by omega, by go_num, by rw [hashTo_succ]⟩
      case measure => simp [intOf]; omega
    · go_wp2
      go_ret
      obtain rfl : k = n := by omega
      exact ⟨rfl, rfl⟩

end Go.Proofs.Ytfkepoibgmljkaa

/- Plain facts on numbers in groups of seven bits; nothing of the program is named here. -/
namespace Go.Proofs.Ytfkepoibgmljkaa
open Go.RowKit

/-- the number that the first k groups make -/
def accTo (l : List UInt8) : Nat → Int
  | 0 => 0
  | k + 1 => accTo l k + (bt l k % 128) * 128 ^ k
theorem accTo_succ (l : List UInt8) (k : Nat) : accTo l (k + 1) = accTo l k + (bt l k % 128) * 128 ^ k := rfl
theorem accTo_lo (l : List UInt8) (k : Nat) : 0 ≤ accTo l k := by
  induction k with
  | zero => simp [accTo]
  | succ k ih =>
    have h1 : (0 : Int) ≤ bt l k % 128 := by omega
    have h2 : (0 : Int) ≤ 128 ^ k := Int.pow_nonneg (by omega)
    have := Int.mul_nonneg h1 h2
    simp only [accTo]; omega
theorem accTo_hi (l : List UInt8) (k : Nat) : accTo l k < 128 ^ k := by
  induction k with
  | zero => simp [accTo]
  | succ k ih =>
    have h1 : bt l k % 128 ≤ 127 := by omega
    have h2 : (0 : Int) ≤ 128 ^ k := Int.pow_nonneg (by omega)
    have := Int.mul_le_mul_of_nonneg_right h1 h2
    simp only [accTo, Int.pow_succ]; omega

/-- byte c at place i cannot be of a short form -/
def brokenB (i : Nat) (c : Int) : Bool := (i == 9 && decide (1 < c)) || (decide (0 < i) && c == 0)

def numFrom (l : List UInt8) : Nat → Nat → Int × Nat × Int
  | 0, _ => (0, 0, 110)
  | f + 1, i => if brokenB i (bt l i) then (0, 0, 8) else if bt l i < 128 then (accTo l (i + 1), i + 1, 0) else numFrom l f (i + 1)
def num (l : List UInt8) : Int × Nat × Int := numFrom l l.length 0

theorem andNot128 (c : Int) (h0 : 0 ≤ c) (h1 : c ≤ 255) : bits .andNot .u8 c 128 = c % 128 := by
  have key : ∀ n : Fin 256, bits .andNot .u8 ((n.val : Nat) : Int) 128 = ((n.val : Nat) : Int) % 128 := by decide +kernel
  have h := key ⟨c.toNat, by omega⟩
  simpa [Int.toNat_of_nonneg h0] using h

theorem pow128 (k : Nat) : (128 : Int) ^ k = 2 ^ (7 * k) := by
  induction k with
  | zero => rfl
  | succ k ih => rw [Int.pow_succ, ih, show 7 * (k + 1) = 7 * k + 7 from by omega, Int.pow_add]; rfl

theorem pow128_le (k m : Nat) (h : k ≤ m) : (128 : Int) ^ k ≤ 128 ^ m := by
  have hn : (128 : Nat) ^ k ≤ 128 ^ m := Nat.pow_le_pow_right (by omega) h
  have e : ∀ j : Nat, (128 : Int) ^ j = ((128 ^ j : Nat) : Int) := by
    intro j
    simp
  rw [e, e]
  exact Int.ofNat_le.2 hn
theorem pow128_9 (k : Nat) (h : k ≤ 9) : (128 : Int) ^ k ≤ 9223372036854775808 := by
  have h9 : (128 : Int) ^ 9 = 9223372036854775808 := by decide
  rw [← h9]
  exact pow128_le k 9 h
theorem pow128_8 (k : Nat) (h : k ≤ 8) : (128 : Int) ^ k ≤ 72057594037927936 := by
  have h9 : (128 : Int) ^ 8 = 72057594037927936 := by decide
  rw [← h9]
  exact pow128_le k 8 h

theorem wraps64 (n : Int) (h₀ : 0 ≤ n) (h₁ : n < 2 ^ 64) : IntKind.u64.wrap n = n := by rw [IntKind.wrap_u64]; omega

/-- the group c at place k, laid where it belongs, fits 64 bits -/
theorem group_fits (c : Int) (k : Nat) (h0 : 0 ≤ c) (hk : k ≤ 9) (h9 : k = 9 → c ≤ 1) : 0 ≤ c % 128 * 128 ^ k ∧ c % 128 * 128 ^ k ≤ 9223372036854775808 := by
  have hp : (0 : Int) ≤ 128 ^ k := Int.pow_nonneg (by omega)
  have hc : (0 : Int) ≤ c % 128 := by omega
  refine ⟨Int.mul_nonneg hc hp, ?_⟩
  by_cases hk9 : k = 9
  · subst hk9
    have e : (128 : Int) ^ 9 = 9223372036854775808 := by decide
    have := h9 rfl
    rw [e]; omega
  · have h1 := pow128_8 k (by omega)
    have h2 : c % 128 ≤ 127 := by omega
    have := Int.mul_le_mul h2 h1 hp (by omega)
    omega

theorem or_comm64 (a b : Int) : bits .or .u64 a b = bits .or .u64 b a := by simp only [bits, BitVec.or_comm]

theorem or_step (l : List UInt8) (c : Int) (k : Nat) (h0 : 0 ≤ c) (h1 : c ≤ 255) (hk : k ≤ 9) (h9 : k = 9 → c ≤ 1) :
    bits BinOp.or IntKind.u64 (accTo l k) (IntKind.u64.wrap (IntKind.u64.wrap (bits BinOp.andNot IntKind.u8 c 128) * 2 ^ (7 * k))) = accTo l k + c % 128 * 128 ^ k := by
  have hf := group_fits c k h0 hk h9
  have a0 := accTo_lo l k
  have a1 := accTo_hi l k
  have p9 := pow128_9 k hk
  rw [andNot128 c h0 h1, wraps64 (c % 128) (by omega) (by omega), ← pow128, wraps64 _ hf.1 (by omega), or_comm64,
    bits_join .u64 64 (by decide) wraps64 (7 * k) (c % 128 * 128 ^ k) (accTo l k) hf.1 (by rw [← pow128]; exact Int.mul_emod_left _ _) (by omega) a0 (by rw [← pow128]; exact a1) (by omega)]
  omega

theorem add_step (l : List UInt8) (c : Int) (k : Nat) (h0 : 0 ≤ c) (hk : k ≤ 9) (h9 : k = 9 → c ≤ 1) :
    0 ≤ accTo l k + c % 128 * 128 ^ k ∧ accTo l k + c % 128 * 128 ^ k ≤ 18446744073709551615 := by
  have hf := group_fits c k h0 hk h9
  have a0 := accTo_lo l k
  have a1 := accTo_hi l k
  have p9 := pow128_9 k hk
  omega

theorem num_broken {l : List UInt8} {n k : Nat} (h : num l = numFrom l (n - k) k) (hlt : k < n) (hb : brokenB k (bt l k) = true) : num l = (0, 0, 8) := by
  rw [h, show n - k = (n - k - 1) + 1 from by omega, numFrom, if_pos hb]
theorem num_last {l : List UInt8} {n k : Nat} (h : num l = numFrom l (n - k) k) (hlt : k < n) (hb : brokenB k (bt l k) = false) (h8 : bt l k < 128) : num l = (accTo l (k + 1), k + 1, 0) := by
  rw [h, show n - k = (n - k - 1) + 1 from by omega, numFrom, if_neg (by simp [hb]), if_pos h8]
theorem num_next {l : List UInt8} {n k : Nat} (h : num l = numFrom l (n - k) k) (hlt : k < n) (hb : brokenB k (bt l k) = false) (h8 : ¬ bt l k < 128) : num l = numFrom l (n - (k + 1)) (k + 1) := by
  rw [h, show n - k = (n - (k + 1)) + 1 from by omega, numFrom, if_neg (by simp [hb]), if_neg h8]
theorem num_short {l : List UInt8} {n k : Nat} (h : num l = numFrom l (n - k) k) (hlt : ¬ k < n) : num l = (0, 0, 110) := by
  rw [h, show n - k = 0 from by omega, numFrom]

end Go.Proofs.Ytfkepoibgmljkaa

/- Plain facts on what the reading of a short form answers. -/
namespace Go.Proofs.Ytfkepoibgmljkaa
open Go.RowKit

theorem numFrom_le (l : List UInt8) : ∀ f i, (numFrom l f i).2.1 ≤ f + i := by
  intro f
  induction f with
  | zero => intro i; simp [numFrom]
  | succ f ih =>
    intro i
    rw [numFrom]
    split
    · simp
    · split
      · simp only; omega
      · have := ih (i + 1); omega
theorem num_le (l : List UInt8) : (num l).2.1 ≤ l.length := by have := numFrom_le l l.length 0; unfold num; omega

theorem numFrom_pos (l : List UInt8) : ∀ f i, (numFrom l f i).2.2 = 0 → i + 1 ≤ (numFrom l f i).2.1 := by
  intro f
  induction f with
  | zero => intro i; simp [numFrom]
  | succ f ih =>
    intro i
    rw [numFrom]
    split
    · simp
    · split
      · simp
      · intro h; have := ih (i + 1) h; omega
theorem num_pos (l : List UInt8) (h : (num l).2.2 = 0) : 1 ≤ (num l).2.1 := by have := numFrom_pos l l.length 0 h; unfold num; omega

theorem numFrom_err (l : List UInt8) : ∀ f i, (numFrom l f i).2.2 = 0 ∨ ((numFrom l f i).1 = 0 ∧ (numFrom l f i).2.1 = 0 ∧ ((numFrom l f i).2.2 = 8 ∨ (numFrom l f i).2.2 = 110)) := by
  intro f
  induction f with
  | zero => intro i; simp [numFrom]
  | succ f ih =>
    intro i
    rw [numFrom]
    split
    · simp
    · split
      · simp
      · exact ih (i + 1)
theorem num_err (l : List UInt8) : (num l).2.2 = 0 ∨ ((num l).1 = 0 ∧ (num l).2.1 = 0 ∧ ((num l).2.2 = 8 ∨ (num l).2.2 = 110)) := numFrom_err l l.length 0

/-- the number fits 64 bits -/
theorem numFrom_fits (l : List UInt8) : ∀ f i, i ≤ 9 → 0 ≤ (numFrom l f i).1 ∧ (numFrom l f i).1 ≤ 18446744073709551615 := by
  intro f
  induction f with
  | zero => intro i _; simp [numFrom]
  | succ f ih =>
    intro i hi
    rw [numFrom]
    split
    · simp
    · rename_i hb
      have hb' : brokenB i (bt l i) = false := by simpa using hb
      split
      · rename_i h8
        simp only [accTo_succ]
        refine add_step l (bt l i) i (bt_lo l i) hi (fun h9 => ?_)
        subst h9
        simp [brokenB] at hb'
        omega
      · rename_i h8
        refine ih (i + 1) ?_
        by_cases h9 : i = 9
        · subst h9
          simp [brokenB] at hb'
          omega
        · omega
theorem num_fits (l : List UInt8) : 0 ≤ (num l).1 ∧ (num l).1 ≤ 18446744073709551615 := numFrom_fits l l.length 0 (by omega)

end Go.Proofs.Ytfkepoibgmljkaa

/- Plain facts on the short form and the wide form as lists of bytes; nothing of the program is named here. -/
namespace Go.Proofs.Ytfkepoibgmljkaa
open Go.RowKit

/-- the short form of x, of at most f + 1 bytes -/
def shortF : Nat → Nat → List UInt8
  | 0, x => [UInt8.ofNat x]
  | f + 1, x => if x < 128 then [UInt8.ofNat x] else UInt8.ofNat (x % 128 + 128) :: shortF f (x / 128)
def short (x : Nat) : List UInt8 := shortF 9 x

theorem shortF_low (f x : Nat) (h : x < 128) : shortF f x = [UInt8.ofNat x] := by
  cases f with
  | zero => rfl
  | succ f => rw [shortF, if_pos h]
theorem shortF_high (f x : Nat) (h : ¬ x < 128) : shortF (f + 1) x = UInt8.ofNat (x % 128 + 128) :: shortF f (x / 128) := by rw [shortF, if_neg h]
theorem shortF_len (f x : Nat) : (shortF f x).length ≤ f + 1 := by
  induction f generalizing x with
  | zero => simp [shortF]
  | succ f ih =>
    rw [shortF]
    split
    · simp
    · have := ih (x / 128); simp; omega
theorem shortF_pos (f x : Nat) : 1 ≤ (shortF f x).length := by
  cases f with
  | zero => simp [shortF]
  | succ f =>
    rw [shortF]
    split <;> simp
theorem short_len (x : Nat) : (short x).length ≤ 10 := shortF_len 9 x

theorem or128 (y : Nat) : bits BinOp.or IntKind.u8 ((y : Int) % 256) 128 = ((UInt8.ofNat (y % 128 + 128)).toNat : Int) := by
  have key : ∀ n : Fin 256, bits .or .u8 ((n.val : Nat) : Int) 128 = ((n.val % 128 + 128 : Nat) : Int) := by decide +kernel
  have h := key ⟨y % 256, Nat.mod_lt _ (by omega)⟩
  have e : (y : Int) % 256 = ((y % 256 : Nat) : Int) := by omega
  rw [e]
  simp only at h
  rw [h, UInt8.toNat_ofNat']
  omega

theorem low8 (y : Nat) : (y : Int) % 256 = ((UInt8.ofNat y).toNat : Int) := by
  rw [UInt8.toNat_ofNat']
  omega

theorem cellsOf_snoc (l : List UInt8) (c : UInt8) (x : Int) (h : x = (c.toNat : Int)) : cellsOf l ++ [Value.int .u8 x] = cellsOf (l ++ [c]) := by rw [h]; simp [cellsOf]


/-- the first k bytes of the wide form -/
def wideTo (x : Nat) : Nat → List UInt8
  | 0 => []
  | k + 1 => wideTo x k ++ [UInt8.ofNat (x / 256 ^ (7 - k))]
def wide (x : Nat) : List UInt8 := wideTo x 8
theorem wideTo_len (x k : Nat) : (wideTo x k).length = k := by
  induction k with
  | zero => rfl
  | succ k ih => simp [wideTo, ih]
theorem wideTo_succ (x k : Nat) : wideTo x (k + 1) = wideTo x k ++ [UInt8.ofNat (x / 256 ^ (7 - k))] := rfl

theorem pow256 (j : Nat) : 256 ^ j = 2 ^ (8 * j) := by
  rw [show (256 : Nat) = 2 ^ 8 from rfl, ← Nat.pow_mul]
theorem wide_byte (x k : Nat) (hk : k < 8) : (x : Int) / 2 ^ (56 - 8 * k) % 256 = ((UInt8.ofNat (x / 256 ^ (7 - k))).toNat : Int) := by
  rw [UInt8.toNat_ofNat', pow256, show 8 * (7 - k) = 56 - 8 * k from by omega]
  have e : (2 : Int) ^ (56 - 8 * k) = ((2 ^ (56 - 8 * k) : Nat) : Int) := by simp
  rw [e, ← Int.natCast_ediv]
  omega

theorem wideTo_bt (x j : Nat) : ∀ k, j < k → bt (wideTo x k) j = ((x / 256 ^ (7 - j) % 256 : Nat) : Int) := by
  intro k
  induction k with
  | zero => intro h; omega
  | succ k ih =>
    intro h
    have hl := wideTo_len x k
    unfold bt
    rw [wideTo_succ, List.getD_eq_getElem?_getD]
    by_cases hj : j < k
    · rw [List.getElem?_append_left (by omega)]
      have := ih hj
      unfold bt at this
      rw [List.getD_eq_getElem?_getD] at this
      exact this
    · obtain rfl : j = k := by omega
      rw [List.getElem?_append_right (by omega)]
      simp [hl, UInt8.toNat_ofNat']
/-- what cell j of the row holds behind k rounds -/
def wideCell (x k j : Nat) : Int := if 8 - k ≤ j then ((x / 256 ^ (7 - j) % 256 : Nat) : Int) else 0
theorem wideCell_old (x k j : Nat) (h : j + k = 7) (i : Nat) (hne : i ≠ j) : wideCell x (k + 1) i = wideCell x k i := by
  unfold wideCell
  by_cases h1 : 8 - k ≤ i
  · rw [if_pos h1, if_pos (by omega)]
  · rw [if_neg h1, if_neg (by omega)]
theorem wideCell_new (x k j : Nat) (h : j + k = 7) : wideCell x (k + 1) j = ((x / 256 ^ k % 256 : Nat) : Int) := by
  unfold wideCell
  rw [if_pos (by omega), show 7 - j = k from by omega]

end Go.Proofs.Ytfkepoibgmljkaa
