/- Plain facts on what the reading of a short form answers. -/
import Derived.Test.YtgcbbnmjomhngaaNumPlain
namespace Go.Proofs.Ytgcbbnmjomhngaa
open Go.RowKit

theorem numFrom_le (l : List UInt8) : ∀ f i, (numFrom l f i).2.1 ≤ f + i := by
  intro f
  induction f with
  | zero => intro i; simp [numFrom]
  | succ f ih =>
    intro i
    rw [numFrom]
    split
    · simp
    · split
      · simp only; omega
      · have := ih (i + 1); omega
theorem num_le (l : List UInt8) : (num l).2.1 ≤ l.length := by have := numFrom_le l l.length 0; unfold num; omega

theorem numFrom_pos (l : List UInt8) : ∀ f i, (numFrom l f i).2.2 = 0 → i + 1 ≤ (numFrom l f i).2.1 := by
  intro f
  induction f with
  | zero => intro i; simp [numFrom]
  | succ f ih =>
    intro i
    rw [numFrom]
    split
    · simp
    · split
      · simp
      · intro h; have := ih (i + 1) h; omega
theorem num_pos (l : List UInt8) (h : (num l).2.2 = 0) : 1 ≤ (num l).2.1 := by have := numFrom_pos l l.length 0 h; unfold num; omega

theorem numFrom_err (l : List UInt8) : ∀ f i, (numFrom l f i).2.2 = 0 ∨ ((numFrom l f i).1 = 0 ∧ (numFrom l f i).2.1 = 0 ∧ ((numFrom l f i).2.2 = 8 ∨ (numFrom l f i).2.2 = 110)) := by
  intro f
  induction f with
  | zero => intro i; simp [numFrom]
  | succ f ih =>
    intro i
    rw [numFrom]
    split
    · simp
    · split
      · simp
      · exact ih (i + 1)
theorem num_err (l : List UInt8) : (num l).2.2 = 0 ∨ ((num l).1 = 0 ∧ (num l).2.1 = 0 ∧ ((num l).2.2 = 8 ∨ (num l).2.2 = 110)) := numFrom_err l l.length 0

/-- the number fits 64 bits -/
theorem numFrom_fits (l : List UInt8) : ∀ f i, i ≤ 9 → 0 ≤ (numFrom l f i).1 ∧ (numFrom l f i).1 ≤ 18446744073709551615 := by
  intro f
  induction f with
  | zero => intro i _; simp [numFrom]
  | succ f ih =>
    intro i hi
    rw [numFrom]
    split
    · simp
    · rename_i hb
      have hb' : brokenB i (bt l i) = false := by simpa using hb
      split
      · rename_i h8
        simp only [accTo_succ]
        refine add_step l (bt l i) i (bt_lo l i) hi (fun h9 => ?_)
        subst h9
        simp [brokenB] at hb'
        omega
      · rename_i h8
        refine ih (i + 1) ?_
        by_cases h9 : i = 9
        · subst h9
          simp [brokenB] at hb'
          omega
        · omega
theorem num_fits (l : List UInt8) : 0 ≤ (num l).1 ∧ (num l).1 ≤ 18446744073709551615 := numFrom_fits l l.length 0 (by omega)

end Go.Proofs.Ytgcbbnmjomhngaa
