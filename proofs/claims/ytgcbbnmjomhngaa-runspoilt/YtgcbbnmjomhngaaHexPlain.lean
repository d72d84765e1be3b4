/- Plain facts on numbers in sixteen digits; nothing of the program is named here. -/
import Derived.Test.YtgcbbnmjomhngaaNumPlain
namespace Go.Proofs.Ytgcbbnmjomhngaa
open Go.RowKit

/-- what a digit says; 16: it is none -/
def dig (c : Int) : Int := if 48 ≤ c ∧ c ≤ 57 then c - 48 else if 97 ≤ c ∧ c ≤ 102 then c - 87 else 16
theorem dig_lo (c : Int) : 0 ≤ dig c := by unfold dig; split <;> (try split) <;> omega
theorem dig_hi (c : Int) : dig c ≤ 16 := by unfold dig; split <;> (try split) <;> omega

/-- the digit of a number below 16 -/
def hexd (v : Nat) : Nat := if v < 10 then 48 + v else 87 + v
theorem hexd_lt (v : Nat) (h : v < 16) : hexd v < 256 := by unfold hexd; split <;> omega
theorem dig_hexd (v : Nat) (h : v < 16) : dig (hexd v : Int) = (v : Int) := by
  unfold hexd dig
  split
  · rw [if_pos (by omega)]; omega
  · rw [if_neg (by omega), if_pos (by omega)]; omega

/-- the number that the first k digits make -/
def unhexTo (l : List UInt8) : Nat → Int
  | 0 => 0
  | k + 1 => unhexTo l k * 16 + dig (bt l k)
theorem unhexTo_succ (l : List UInt8) (k : Nat) : unhexTo l (k + 1) = unhexTo l k * 16 + dig (bt l k) := rfl
theorem unhexTo_lo (l : List UInt8) (k : Nat) : 0 ≤ unhexTo l k := by
  induction k with
  | zero => simp [unhexTo]
  | succ k ih => rw [unhexTo_succ]; have := dig_lo (bt l k); omega
theorem unhexTo_hi (l : List UInt8) (k : Nat) (h : ∀ j, j < k → dig (bt l j) ≤ 15) : unhexTo l k < 16 ^ k := by
  induction k with
  | zero => simp [unhexTo]
  | succ k ih =>
    rw [unhexTo_succ, Int.pow_succ]
    have h1 := ih (fun j hj => h j (by omega))
    have h2 := h k (by omega)
    omega

theorem pow16_le (k m : Nat) (h : k ≤ m) : (16 : Int) ^ k ≤ 16 ^ m := by
  have hn : (16 : Nat) ^ k ≤ 16 ^ m := Nat.pow_le_pow_right (by omega) h
  have e : ∀ j : Nat, (16 : Int) ^ j = ((16 ^ j : Nat) : Int) := by
    intro j
    simp
  rw [e, e]
  exact Int.ofNat_le.2 hn
theorem pow16_15 (k : Nat) (h : k ≤ 15) : (16 : Int) ^ k ≤ 1152921504606846976 := by
  have h9 : (16 : Int) ^ 15 = 1152921504606846976 := by decide
  rw [← h9]
  exact pow16_le k 15 h

/-- sixteen digits, each of which is one -/
def hexOK (l : List UInt8) : Prop := l.length = 16 ∧ ∀ j, j < 16 → dig (bt l j) ≤ 15

theorem shl4 (x v : Int) (h0 : 0 ≤ x) (h1 : x < 1152921504606846976) (v0 : 0 ≤ v) (v1 : v ≤ 15) : bits BinOp.or IntKind.u64 (x * 16) v = x * 16 + v :=
  bits_join .u64 64 (by decide) wraps64 4 (x * 16) v (by omega) (by omega) (by omega) v0 (by omega) (by omega)

theorem and15 (y : Nat) (h : y < 18446744073709551616) : bits BinOp.and IntKind.u64 (y : Int) 15 = ((y % 16 : Nat) : Int) := by
  have := bits_mask .u64 64 (by decide) wraps64 4 (by decide) (y : Int) (by omega) (by omega)
  simp only [show (2 : Int) ^ 4 - 1 = 15 from rfl] at this
  rw [this]
  omega

/-- the sixteen digits of x -/
def hexOf (x : Nat) : List UInt8 := (List.range 16).map fun j => UInt8.ofNat (hexd (x / 16 ^ (15 - j) % 16))
theorem hexOf_len (x : Nat) : (hexOf x).length = 16 := by simp [hexOf]
theorem hexOf_bt (x j : Nat) (h : j < 16) : bt (hexOf x) j = (hexd (x / 16 ^ (15 - j) % 16) : Int) := by
  unfold bt hexOf
  rw [List.getD_eq_getElem?_getD, List.getElem?_map, List.getElem?_range h]
  simp only [Option.map_some, Option.getD_some, UInt8.toNat_ofNat']
  have := hexd_lt (x / 16 ^ (15 - j) % 16) (Nat.mod_lt _ (by omega))
  omega

/-- what cell j of the row holds behind k rounds -/
def hexCell (x k j : Nat) : Int := if 16 - k ≤ j then (hexd (x / 16 ^ (15 - j) % 16) : Int) else 0

end Go.Proofs.Ytgcbbnmjomhngaa
