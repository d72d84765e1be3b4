/- The walk of the statements' own comparison of bytes. -/
import Derived.Test.YtkfmihbbmafolaaStr
namespace Go.Proofs.Ytkfmihbbmafolaa
open Go.RowKit

theorem same_yes (w : World) (a b : Option Addr) (n m c d : Nat) (l k : List UInt8) (ha : Bytes w a n l) (hb : Bytes w b m k) (h : l = k) :
    Calls Try.prog 14 #[.slice a n c, .slice b m d] w fun e w' => e = .returned (.bool true) ∧ w' = w := by
  subst h
  have r1 := run_string w a n c l ha
  have r2 := run_string w b m d l hb
  go_enter Try.func14, Try.ntmps14
  go_wp2
  go_ret
  exact ⟨rfl, rfl⟩

end Go.Proofs.Ytkfmihbbmafolaa
