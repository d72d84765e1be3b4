import Derived.Test.YtiafhbpklddlnaaProg
import Derived.Test.YtiafhbpklddlnaaC01
import Derived.Outline
/- The walk of the look whether a text is a file's name. -/
namespace Go.Proofs.Ytiafhbpklddlnaa
open Go.RowKit

/-- may this byte stand in a file's name? -/
def okc (c : Int) : Bool := (decide (97 ≤ c) && decide (c ≤ 122)) || (decide (48 ≤ c) && decide (c ≤ 57)) || decide (c = 45) || decide (c = 46)
def okTo (l : List UInt8) (k : Nat) : Bool := (List.range k).all fun j => okc (bt l j)
/-- is it a file's name? -/
def nameB (l : List UInt8) : Bool := decide (1 ≤ l.length) && decide (l.length ≤ 32) && okTo l l.length

theorem okTo_succ (l : List UInt8) (k : Nat) : okTo l (k + 1) = (okTo l k && okc (bt l k)) := by simp [okTo, List.range_succ]
theorem okTo_le (l : List UInt8) (k n : Nat) (h : okTo l n = true) (hk : k ≤ n) : okTo l k = true := by
  simp only [okTo, List.all_eq_true, List.mem_range] at h ⊢
  exact fun j hj => h j (by omega)

set_option maxHeartbeats 1000000 in
theorem name_any (s : ByteArray) (w : World) (hs : s.size ≤ maxLen) :
    Calls Try.prog 72 #[.string s] w fun e w' => e = .returned (.bool (nameB s.data.toList)) ∧ w' = w := by
  have hs' : s.size ≤ 9223372036854775807 := by unfold maxLen at hs; omega
  have hll : s.data.toList.length = s.size := by simp
  by_cases h1 : s.size < 1
  · have i1 : (s.size : Int) < 1 := by omega
    go_enter Try.func72, Try.ntmps72
    go_wp2
    go_ret
    refine ⟨?_, rfl⟩
    simp [nameB, show ¬ 1 ≤ s.size by omega]
  · have i1 : ¬ (s.size : Int) < 1 := by omega
    by_cases h2 : 32 < s.size
    · have i2 : (32 : Int) < s.size := by omega
      go_enter Try.func72, Try.ntmps72
      go_wp2
      go_ret
      refine ⟨?_, rfl⟩
      simp [nameB, show ¬ s.size ≤ 32 by omega]
    · have i2 : ¬ (32 : Int) < s.size := by omega
      go_enter Try.func72, Try.ntmps72
      go_wp2
      go_loop [15] (fun i => ∃ k : Nat, k ≤ s.size ∧ i = .int .i64 k ∧ Hid (okTo s.data.toList k = true)) (fun i => s.size - (intOf i).toNat)
      case atStart => exact ⟨0, by omega, rfl, rfl⟩
      case round =>
        obtain ⟨k, hk, rfl, hok⟩ := hrel
        by_cases hlt : k < s.size
        · have i3 : (k : Int) < s.size := by omega
          have hbt : bt s.data.toList k = (s[k].toNat : Int) := by
            unfold bt
            congr 2
            simp [List.getD, hlt]
            rfl
          go_wp2
          all_goals first
            | (refine ⟨⟨k + 1, by omega, by simp, ?_⟩, by simp [intOf]; omega⟩
               show okTo s.data.toList (k + 1) = true
               rw [okTo_succ, hok.out, hbt]
               simp [okc]
               omega)
            | (refine ⟨⟨k + 1, by omega, by simp, ?_⟩, by simp [intOf]; omega⟩
               show okTo s.data.toList (k + 1) = true
               rw [okTo_succ, hok.out, hbt]
               unfold okc
               grind)
            | (go_ret
               refine ⟨?_, rfl⟩
               have hno : okc (bt s.data.toList k) = false := by rw [hbt]; unfold okc; grind
               have : nameB s.data.toList = false := by
                 cases hnb : nameB s.data.toList with
                 | false => rfl
                 | true =>
                   simp only [nameB, Bool.and_eq_true, decide_eq_true_eq] at hnb
                   have := okTo_le _ (k + 1) _ hnb.2 (by omega)
                   rw [okTo_succ, hno] at this
                   simp at this
               rw [this]
               rfl)
        · have i3 : ¬ (k : Int) < s.size := by omega
          go_wp2
          go_ret
          refine ⟨?_, rfl⟩
          obtain rfl : k = s.size := by omega
          have := hok.out
          simp [nameB, show 1 ≤ s.size by omega, show s.size ≤ 32 by omega, this]
end Go.Proofs.Ytiafhbpklddlnaa
