/- The walk of the program's Hash. -/
import Derived.Test.YtgcbbnmjomhngaaProg
import Derived.Test.YtgcbbnmjomhngaaBytes
import Derived.Outline
namespace Go.Proofs.Ytgcbbnmjomhngaa
open Go.RowKit

/-- the hash of the first k bytes of l -/
def hashTo (l : List UInt8) : Nat → Int
  | 0 => 14695981039346656037
  | k + 1 => IntKind.u64.wrap (bits BinOp.xor IntKind.u64 (hashTo l k) (bt l k) * 1099511628211)
theorem hashTo_zero (l : List UInt8) : hashTo l 0 = 14695981039346656037 := rfl
theorem hashTo_succ (l : List UInt8) (k : Nat) : hashTo l (k + 1) = IntKind.u64.wrap (bits BinOp.xor IntKind.u64 (hashTo l k) (bt l k) * 1099511628211) := rfl
theorem hashTo_lo (l : List UInt8) (k : Nat) : 0 ≤ hashTo l k := by
  cases k with
  | zero => rw [hashTo_zero]; omega
  | succ k => rw [hashTo_succ]; rw [IntKind.wrap_u64]; omega
theorem hashTo_hi (l : List UInt8) (k : Nat) : hashTo l k ≤ 18446744073709551615 := by
  cases k with
  | zero => rw [hashTo_zero]; omega
  | succ k => rw [hashTo_succ]; rw [IntKind.wrap_u64]; omega

set_option maxHeartbeats 400000 in
theorem hash_any (a : Option Addr) (n cap : Nat) (l : List UInt8) (w : World) (hb : Bytes w a n l) (hm : n ≤ maxLen) :
    Calls Try.prog 46 #[.slice a n cap] w fun e w' => e = .returned (.int .u64 (hashTo l n)) ∧ w' = w := by
  unfold maxLen at hm
  obtain ⟨hl, hc⟩ := hb
  go_enter Try.func46, Try.ntmps46
  go_wp2
  go_loop [3, 8] (fun h i => ∃ k : Nat, k ≤ n ∧ i = .int .i64 k ∧ h = .int .u64 (hashTo l k)) (fun _ i => n - (intOf i).toNat)
  case atStart => exact ⟨0, Nat.zero_le _, rfl, rfl⟩
  case round =>
    obtain ⟨k, hk, rfl, rfl⟩ := hrel
    by_cases hlt : k < n
    · obtain ⟨b, off, rfl, hcell⟩ := hc (by omega)
      have hck := hcell k hlt
      have b0 := bt_lo l k
      have b1 := bt_hi l k
      have h0 := hashTo_lo l k
      have h1 := hashTo_hi l k
      clear hcell hc
      go_wp2
      go_round
      case rel => exact ⟨k + 1, by omega, by go_num, by rw [hashTo_succ]⟩
      case measure => simp [intOf]; omega
    · go_wp2
      go_ret
      obtain rfl : k = n := by omega
      exact ⟨rfl, rfl⟩

end Go.Proofs.Ytgcbbnmjomhngaa
