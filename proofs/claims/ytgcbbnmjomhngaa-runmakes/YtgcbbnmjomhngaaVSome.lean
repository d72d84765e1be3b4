/- The law's some: at most so many pairs; pairs copied into a row of one's own. -/
import Derived.Test.YtgcbbnmjomhngaaVWakes
namespace Go.Proofs.Ytgcbbnmjomhngaa
open Go.RowKit Go.Shelf Go.Maps Go.Lib

attribute [local go_sem] Oper.semAt_some

theorem some_any (w : World) (a : Option Addr) (n c m : Nat) (hcap : n ≤ c) :
    Calls Try.prog 9 #[.slice a n c, .int .i64 (m : Int)] w fun e w' => e = .returned (.slice a (min n m) c) ∧ w' = w := by
  by_cases h : n ≤ m
  · have i1 : ¬ (m : Int) < (n : Int) := by omega
    rw [Nat.min_eq_left h]
    go_enter Try.func9, Try.ntmps9
    go_wp2
    go_ret
    exact ⟨rfl, rfl⟩
  · have i1 : (m : Int) < (n : Int) := by omega
    have i2 : (m : Int) ≤ (c : Int) := by omega
    have i3 : (0 : Int) ≤ (m : Int) := by omega
    rw [Nat.min_eq_right (by omega)]
    go_enter Try.func9, Try.ntmps9
    go_wp2
    go_ret
    exact ⟨rfl, rfl⟩
end Go.Proofs.Ytgcbbnmjomhngaa
