/- Plain facts on the short form and the wide form as lists of bytes; nothing of the program is named here. -/
import Derived.Test.YtgcbbnmjomhngaaNumPlain
namespace Go.Proofs.Ytgcbbnmjomhngaa
open Go.RowKit

/-- the short form of x, of at most f + 1 bytes -/
def shortF : Nat → Nat → List UInt8
  | 0, x => [UInt8.ofNat x]
  | f + 1, x => if x < 128 then [UInt8.ofNat x] else UInt8.ofNat (x % 128 + 128) :: shortF f (x / 128)
def short (x : Nat) : List UInt8 := shortF 9 x

theorem shortF_low (f x : Nat) (h : x < 128) : shortF f x = [UInt8.ofNat x] := by
  cases f with
  | zero => rfl
  | succ f => rw [shortF, if_pos h]
theorem shortF_high (f x : Nat) (h : ¬ x < 128) : shortF (f + 1) x = UInt8.ofNat (x % 128 + 128) :: shortF f (x / 128) := by rw [shortF, if_neg h]
theorem shortF_len (f x : Nat) : (shortF f x).length ≤ f + 1 := by
  induction f generalizing x with
  | zero => simp [shortF]
  | succ f ih =>
    rw [shortF]
    split
    · simp
    · have := ih (x / 128); simp; omega
theorem shortF_pos (f x : Nat) : 1 ≤ (shortF f x).length := by
  cases f with
  | zero => simp [shortF]
  | succ f =>
    rw [shortF]
    split <;> simp
theorem short_len (x : Nat) : (short x).length ≤ 10 := shortF_len 9 x

theorem or128 (y : Nat) : bits BinOp.or IntKind.u8 ((y : Int) % 256) 128 = ((UInt8.ofNat (y % 128 + 128)).toNat : Int) := by
  have key : ∀ n : Fin 256, bits .or .u8 ((n.val : Nat) : Int) 128 = ((n.val % 128 + 128 : Nat) : Int) := by decide +kernel
  have h := key ⟨y % 256, Nat.mod_lt _ (by omega)⟩
  have e : (y : Int) % 256 = ((y % 256 : Nat) : Int) := by omega
  rw [e]
  simp only at h
  rw [h, UInt8.toNat_ofNat']
  omega

theorem low8 (y : Nat) : (y : Int) % 256 = ((UInt8.ofNat y).toNat : Int) := by
  rw [UInt8.toNat_ofNat']
  omega

theorem cellsOf_snoc (l : List UInt8) (c : UInt8) (x : Int) (h : x = (c.toNat : Int)) : cellsOf l ++ [Value.int .u8 x] = cellsOf (l ++ [c]) := by rw [h]; simp [cellsOf]


/-- the first k bytes of the wide form -/
def wideTo (x : Nat) : Nat → List UInt8
  | 0 => []
  | k + 1 => wideTo x k ++ [UInt8.ofNat (x / 256 ^ (7 - k))]
def wide (x : Nat) : List UInt8 := wideTo x 8
theorem wideTo_len (x k : Nat) : (wideTo x k).length = k := by
  induction k with
  | zero => rfl
  | succ k ih => simp [wideTo, ih]
theorem wideTo_succ (x k : Nat) : wideTo x (k + 1) = wideTo x k ++ [UInt8.ofNat (x / 256 ^ (7 - k))] := rfl

theorem pow256 (j : Nat) : 256 ^ j = 2 ^ (8 * j) := by
  rw [show (256 : Nat) = 2 ^ 8 from rfl, ← Nat.pow_mul]
theorem wide_byte (x k : Nat) (hk : k < 8) : (x : Int) / 2 ^ (56 - 8 * k) % 256 = ((UInt8.ofNat (x / 256 ^ (7 - k))).toNat : Int) := by
  rw [UInt8.toNat_ofNat', pow256, show 8 * (7 - k) = 56 - 8 * k from by omega]
  have e : (2 : Int) ^ (56 - 8 * k) = ((2 ^ (56 - 8 * k) : Nat) : Int) := by simp
  rw [e, ← Int.natCast_ediv]
  omega

theorem wideTo_bt (x j : Nat) : ∀ k, j < k → bt (wideTo x k) j = ((x / 256 ^ (7 - j) % 256 : Nat) : Int) := by
  intro k
  induction k with
  | zero => intro h; omega
  | succ k ih =>
    intro h
    have hl := wideTo_len x k
    unfold bt
    rw [wideTo_succ, List.getD_eq_getElem?_getD]
    by_cases hj : j < k
    · rw [List.getElem?_append_left (by omega)]
      have := ih hj
      unfold bt at this
      rw [List.getD_eq_getElem?_getD] at this
      exact this
    · obtain rfl : j = k := by omega
      rw [List.getElem?_append_right (by omega)]
      simp [hl, UInt8.toNat_ofNat']
/-- what cell j of the row holds behind k rounds -/
def wideCell (x k j : Nat) : Int := if 8 - k ≤ j then ((x / 256 ^ (7 - j) % 256 : Nat) : Int) else 0
theorem wideCell_old (x k j : Nat) (h : j + k = 7) (i : Nat) (hne : i ≠ j) : wideCell x (k + 1) i = wideCell x k i := by
  unfold wideCell
  by_cases h1 : 8 - k ≤ i
  · rw [if_pos h1, if_pos (by omega)]
  · rw [if_neg h1, if_neg (by omega)]
theorem wideCell_new (x k j : Nat) (h : j + k = 7) : wideCell x (k + 1) j = ((x / 256 ^ k % 256 : Nat) : Int) := by
  unfold wideCell
  rw [if_pos (by omega), show 7 - j = k from by omega]

end Go.Proofs.Ytgcbbnmjomhngaa
