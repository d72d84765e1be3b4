/- Plain facts on the hash: a byte more is a step more; another byte is another hash; digits there and back. Nothing of the program is named here. -/
import Derived.Test.YtgcbbnmjomhngaaHash
import Derived.Test.YtgcbbnmjomhngaaHexPlain
namespace Go.Proofs.Ytgcbbnmjomhngaa
open Go.RowKit

theorem hashTo_congr (l m : List UInt8) : ∀ k, (∀ j, j < k → bt l j = bt m j) → hashTo l k = hashTo m k := by
  intro k
  induction k with
  | zero => intro _; rfl
  | succ k ih => intro h; rw [hashTo_succ, hashTo_succ, ih (fun j hj => h j (by omega)), h k (by omega)]

theorem bt_append_left (l m : List UInt8) (j : Nat) (h : j < l.length) : bt (l ++ m) j = bt l j := by
  unfold bt
  rw [List.getD_eq_getElem?_getD, List.getD_eq_getElem?_getD, List.getElem?_append_left h]
theorem bt_snoc (l : List UInt8) (c : UInt8) : bt (l ++ [c]) l.length = (c.toNat : Int) := by
  unfold bt
  simp

theorem hashTo_snoc (l : List UInt8) (c : UInt8) (n : Nat) (h : l.length = n) : hashTo (l ++ [c]) (n + 1) = IntKind.u64.wrap (bits BinOp.xor IntKind.u64 (hashTo l n) (c.toNat : Int) * 1099511628211) := by
  rw [hashTo_succ, ← h, bt_snoc, hashTo_congr (l ++ [c]) l l.length (fun j hj => bt_append_left l [c] j hj)]

theorem xor_inj (a b c : Int) (a0 : 0 ≤ a) (a1 : a < 18446744073709551616) (b0 : 0 ≤ b) (b1 : b < 18446744073709551616) (c0 : 0 ≤ c) (c1 : c < 18446744073709551616)
    (h : bits BinOp.xor IntKind.u64 a c = bits BinOp.xor IntKind.u64 b c) : a = b := by
  rw [u64_xor a c a0 a1 c0 c1, u64_xor b c b0 b1 c0 c1] at h
  have h' : a.toNat ^^^ c.toNat = b.toNat ^^^ c.toNat := by omega
  have := congrArg (· ^^^ c.toNat) h'
  simp only [Nat.xor_assoc, Nat.xor_self, Nat.xor_zero] at this
  omega
theorem xor_inj' (a b c : Int) (a0 : 0 ≤ a) (a1 : a < 18446744073709551616) (b0 : 0 ≤ b) (b1 : b < 18446744073709551616) (c0 : 0 ≤ c) (c1 : c < 18446744073709551616)
    (h : bits BinOp.xor IntKind.u64 c a = bits BinOp.xor IntKind.u64 c b) : a = b := by
  rw [u64_xor c a c0 c1 a0 a1, u64_xor c b c0 c1 b0 b1] at h
  have h' : c.toNat ^^^ a.toNat = c.toNat ^^^ b.toNat := by omega
  have := congrArg (c.toNat ^^^ ·) h'
  simp only [← Nat.xor_assoc, Nat.xor_self, Nat.zero_xor] at this
  omega
theorem xor_bd (a c : Int) (a0 : 0 ≤ a) (a1 : a < 18446744073709551616) (c0 : 0 ≤ c) (c1 : c < 18446744073709551616) : 0 ≤ bits BinOp.xor IntKind.u64 a c ∧ bits BinOp.xor IntKind.u64 a c < 18446744073709551616 := by
  rw [u64_xor a c a0 a1 c0 c1]
  have : a.toNat ^^^ c.toNat < 2 ^ 64 := Nat.xor_lt_two_pow (by omega) (by omega)
  omega

theorem mul_inj (a b : Int) (a0 : 0 ≤ a) (a1 : a < 18446744073709551616) (b0 : 0 ≤ b) (b1 : b < 18446744073709551616) (h : IntKind.u64.wrap (a * 1099511628211) = IntKind.u64.wrap (b * 1099511628211)) : a = b := by
  rw [IntKind.wrap_u64, IntKind.wrap_u64] at h
  have e : ∀ z : Int, (z * 1099511628211 % 18446744073709551616 * 14886173955864302971) % 18446744073709551616 = z % 18446744073709551616 := by
    intro z
    have hc : (1099511628211 : Int) * 14886173955864302971 = 1 + 18446744073709551616 * 887285111055 := by decide
    rw [Int.mul_emod, Int.emod_emod, ← Int.mul_emod, Int.mul_assoc, hc, Int.mul_add, Int.mul_one, Int.mul_left_comm, Int.add_mul_emod_self_left]
  have ha := e a
  rw [h, e b, Int.emod_eq_of_lt b0 b1, Int.emod_eq_of_lt a0 a1] at ha
  exact ha.symm

/-- a step from unlike hashes, by the same byte, leads to unlike hashes -/
theorem step_inj (a b c : Int) (a0 : 0 ≤ a) (a1 : a < 18446744073709551616) (b0 : 0 ≤ b) (b1 : b < 18446744073709551616) (c0 : 0 ≤ c) (c1 : c ≤ 255)
    (h : IntKind.u64.wrap (bits BinOp.xor IntKind.u64 a c * 1099511628211) = IntKind.u64.wrap (bits BinOp.xor IntKind.u64 b c * 1099511628211)) : a = b := by
  have xa := xor_bd a c a0 a1 c0 (by omega)
  have xb := xor_bd b c b0 b1 c0 (by omega)
  exact xor_inj a b c a0 a1 b0 b1 c0 (by omega) (mul_inj _ _ xa.1 xa.2 xb.1 xb.2 h)
theorem step_inj' (a b c : Int) (a0 : 0 ≤ a) (a1 : a ≤ 255) (b0 : 0 ≤ b) (b1 : b ≤ 255) (c0 : 0 ≤ c) (c1 : c < 18446744073709551616)
    (h : IntKind.u64.wrap (bits BinOp.xor IntKind.u64 c a * 1099511628211) = IntKind.u64.wrap (bits BinOp.xor IntKind.u64 c b * 1099511628211)) : a = b := by
  have xa := xor_bd c a c0 c1 a0 (by omega)
  have xb := xor_bd c b c0 c1 b0 (by omega)
  exact xor_inj' a b c a0 (by omega) b0 (by omega) c0 c1 (mul_inj _ _ xa.1 xa.2 xb.1 xb.2 h)

/-- rows that differ in one byte alone have unlike hashes -/
theorem hashTo_other (l m : List UInt8) (j n : Nat) (hj : j < n) (hother : ∀ i, i ≠ j → bt l i = bt m i) (hne : bt l j ≠ bt m j) : hashTo l n ≠ hashTo m n := by
  obtain ⟨d, rfl⟩ : ∃ d, n = j + 1 + d := ⟨n - (j + 1), by omega⟩
  clear hj
  induction d with
  | zero =>
    intro h
    rw [Nat.add_zero, hashTo_succ, hashTo_succ, hashTo_congr l m j (fun i hi => hother i (by omega))] at h
    have h0 := hashTo_lo m j
    have h1 := hashTo_hi m j
    exact hne (step_inj' _ _ _ (bt_lo l j) (bt_hi l j) (bt_lo m j) (bt_hi m j) h0 (by omega) h)
  | succ d ih =>
    intro h
    rw [show j + 1 + (d + 1) = (j + 1 + d) + 1 from by omega, hashTo_succ, hashTo_succ, hother (j + 1 + d) (by omega)] at h
    have a0 := hashTo_lo l (j + 1 + d)
    have a1 := hashTo_hi l (j + 1 + d)
    have b0 := hashTo_lo m (j + 1 + d)
    have b1 := hashTo_hi m (j + 1 + d)
    exact ih (step_inj _ _ _ a0 (by omega) b0 (by omega) (bt_lo m _) (bt_hi m _) h)

theorem unhexTo_hexOf (x : Nat) : ∀ k, k ≤ 16 → x < 16 ^ 16 → unhexTo (hexOf x) k = ((x / 16 ^ (16 - k) : Nat) : Int) := by
  intro k
  induction k with
  | zero => intro _ hx; rw [Nat.sub_zero, Nat.div_eq_of_lt hx]; rfl
  | succ k ih =>
    intro hk hx
    rw [unhexTo_succ, ih (by omega) hx, hexOf_bt x k (by omega), dig_hexd _ (Nat.mod_lt _ (by omega)), show 16 - k = (15 - k) + 1 from by omega, show 16 - (k + 1) = 15 - k from by omega, Nat.pow_succ, ← Nat.div_div_eq_div_mul]
    omega
theorem hexOK_hexOf (x : Nat) : hexOK (hexOf x) := by
  refine ⟨hexOf_len x, fun j hj => ?_⟩
  have h16 : x / 16 ^ (15 - j) % 16 < 16 := Nat.mod_lt _ (by omega)
  rw [hexOf_bt x j hj, dig_hexd _ h16]
  omega
theorem unhex_hex (x : Nat) (hx : x < 18446744073709551616) : unhexTo (hexOf x) 16 = (x : Int) := by
  rw [unhexTo_hexOf x 16 (by omega) hx]
  simp

end Go.Proofs.Ytgcbbnmjomhngaa
