/- The walk of the law on numbers. -/
import Derived.Test.YtfppfbalhhbjdaaDoorQNum
import Derived.Test.YtfppfbalhhbjdaaDoorQWakes
namespace Go.Proofs.YtfppfbalhhbjdaaDoor
open Go.RowKit

set_option maxRecDepth 20000 in
set_option maxHeartbeats 2000000 in
theorem quoteNumbers_walk (s : ByteArray) (w : World) (hs : s.size ≤ maxLen) (hT : Tabs w) :
    Calls Tryd.prog 6 #[.string s] w fun e w' => e = .returned (.bool true) ∧ Below w.heap.size w w' := by
  have c1 := fun w => number_any s w hs
  have c2 := fun w => refNumber_any s w hs
  unfold numV at c1 c2
  generalize (numL (bs s)).getD 0 = x at *
  generalize (numL (bs s)).isSome = b at *
  have hbb : (b == b) = true := by simp
  go_enter Tryd.func6, Tryd.ntmps6
  go_wp2_with first
    | (go_at_call 9; refine (wakes_any _ hT).mono ?_; rintro e w1 ⟨rfl, hB1⟩; have hT1 := hT.below hB1; clear hT)
    | (go_at_call 22; refine (c1 _).mono ?_; rintro e w2 ⟨rfl, hB2⟩; clear c1)
    | (go_at_call 23; refine (c2 _).mono ?_; rintro e w3 ⟨rfl, hB3⟩; have hT3 := (hT1.below hB2).below hB3; clear hT1)
    | (go_at_call 9; refine (wakes_any _ hT3).mono ?_; rintro e w4 ⟨rfl, hB4⟩)
  go_ret
  exact ⟨rfl, ((hB1.trans (hB2.mono hB1.size)).trans (hB3.mono (by have := hB1.size; have := hB2.size; omega))).trans (hB4.mono (by have := hB1.size; have := hB2.size; have := hB3.size; omega))⟩
end Go.Proofs.YtfppfbalhhbjdaaDoor
