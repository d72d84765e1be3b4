/- Plain facts on the wide form that is read and on a text's bounds; nothing of the program is named here. -/
import Derived.Test.YtgcbbnmjomhngaaNumMore
namespace Go.Proofs.Ytgcbbnmjomhngaa
open Go.RowKit

/-- the number that the first k bytes make, the highest first -/
def wideVal (l : List UInt8) : Nat → Int
  | 0 => 0
  | k + 1 => wideVal l k * 256 + bt l k
theorem wideVal_succ (l : List UInt8) (k : Nat) : wideVal l (k + 1) = wideVal l k * 256 + bt l k := rfl
theorem wideVal_lo (l : List UInt8) (k : Nat) : 0 ≤ wideVal l k := by
  induction k with
  | zero => simp [wideVal]
  | succ k ih => rw [wideVal_succ]; have := bt_lo l k; omega
theorem wideVal_hi (l : List UInt8) (k : Nat) : wideVal l k < 256 ^ k := by
  induction k with
  | zero => simp [wideVal]
  | succ k ih =>
    rw [wideVal_succ, Int.pow_succ]
    have := bt_hi l k
    omega
theorem pow256_7 (k : Nat) (h : k ≤ 7) : (256 : Int) ^ k ≤ 72057594037927936 := by
  have h9 : (256 : Int) ^ 7 = 72057594037927936 := by decide
  rw [← h9]
  have hn : (256 : Nat) ^ k ≤ 256 ^ 7 := Nat.pow_le_pow_right (by omega) h
  have e : ∀ j : Nat, (256 : Int) ^ j = ((256 ^ j : Nat) : Int) := by
    intro j
    simp
  rw [e, e]
  exact Int.ofNat_le.2 hn
theorem wideVal_7 (l : List UInt8) (k : Nat) (h : k ≤ 7) : wideVal l k < 72057594037927936 := by
  have := wideVal_hi l k
  have := pow256_7 k h
  omega
theorem wideVal_fits (l : List UInt8) (k : Nat) (h : k ≤ 8) : wideVal l k ≤ 18446744073709551615 := by
  cases k with
  | zero => simp [wideVal]
  | succ k =>
    rw [wideVal_succ]
    have := wideVal_7 l k (by omega)
    have := bt_hi l k
    omega
theorem shl8 (x v : Int) (h0 : 0 ≤ x) (h1 : x < 72057594037927936) (v0 : 0 ≤ v) (v1 : v ≤ 255) : bits BinOp.or IntKind.u64 (x * 256) v = x * 256 + v :=
  bits_join .u64 64 (by decide) wraps64 8 (x * 256) v (by omega) (by omega) (by omega) v0 (by omega) (by omega)

/-- where a text begins, and ends, whose form l begins with; or why there is none -/
def txt (l : List UInt8) (most : Int) : Nat × Nat × Int :=
  if most < 0 then (0, 0, 2)
  else if (num l).2.2 ≠ 0 then (0, 0, (num l).2.2)
  else if most < (num l).1 then (0, 0, 3)
  else if ((l.length - (num l).2.1 : Nat) : Int) < (num l).1 then (0, 0, 110)
  else ((num l).2.1, (num l).2.1 + (num l).1.toNat, 0)

theorem txt_arg (l : List UInt8) (most : Int) (h : most < 0) : txt l most = (0, 0, 2) := by rw [txt, if_pos h]
theorem txt_num (l : List UInt8) (most : Int) (h : ¬ most < 0) (hn : (num l).2.2 ≠ 0) : txt l most = (0, 0, (num l).2.2) := by rw [txt, if_neg h, if_pos hn]
theorem txt_long (l : List UInt8) (most : Int) (h : ¬ most < 0) (hn : (num l).2.2 = 0) (hl : most < (num l).1) : txt l most = (0, 0, 3) := by rw [txt, if_neg h, if_neg (by simpa using hn), if_pos hl]
theorem txt_short (l : List UInt8) (most : Int) (h : ¬ most < 0) (hn : (num l).2.2 = 0) (hl : ¬ most < (num l).1) (hs : ((l.length - (num l).2.1 : Nat) : Int) < (num l).1) : txt l most = (0, 0, 110) := by
  rw [txt, if_neg h, if_neg (by simpa using hn), if_neg hl, if_pos hs]
theorem txt_ok (l : List UInt8) (most : Int) (h : ¬ most < 0) (hn : (num l).2.2 = 0) (hl : ¬ most < (num l).1) (hs : ¬ ((l.length - (num l).2.1 : Nat) : Int) < (num l).1) : txt l most = ((num l).2.1, (num l).2.1 + (num l).1.toNat, 0) := by
  rw [txt, if_neg h, if_neg (by simpa using hn), if_neg hl, if_neg hs]

theorem txt_bounds (l : List UInt8) (most : Int) : (txt l most).1 ≤ (txt l most).2.1 ∧ (txt l most).2.1 ≤ l.length := by
  have h1 := num_le l
  have h2 := num_fits l
  unfold txt
  split
  · simp
  · split
    · simp
    · split
      · simp
      · split
        · simp
        · simp only
          omega

end Go.Proofs.Ytgcbbnmjomhngaa
