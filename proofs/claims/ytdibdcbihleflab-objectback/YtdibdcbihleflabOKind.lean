/- The walks of what tells an object's kind by its type. -/
import Derived.Test.YtdibdcbihleflabOAssert
import Derived.Test.YtdibdcbihleflabBytes
import Derived.Tactics
import Derived.Tactics2
import Derived.Defers
import Derived.Recover
import Derived.Laws.Pointers
import Derived.RangeFuncBox
namespace Go.Proofs.Ytdibdcbihleflab
open Go.RowKit

theorem okind_tree (v : Value) (w : World) : Calls Try.prog 22 #[.iface 33 v] w fun e w' => e = .returned (.int .i64 2) ∧ w' = w := by
  have h1 := no_blob 33 (by decide) v
  have h2 := as_tree v
  go_enter Try.func22, Try.ntmps22
  go_wp2
  go_ret
  exact ⟨rfl, rfl⟩
theorem kind_tree (v : Value) (w : World) : Calls Try.prog 13 #[.iface 33 v] w fun e w' => e = .returned (.int .i64 2) ∧ w' = w := by
  go_enter Try.func13, Try.ntmps13
  go_wp2_with (go_at_call 22; refine (okind_tree v _).mono ?_; rintro e w1 ⟨rfl, rfl⟩)
  go_ret
  exact ⟨rfl, rfl⟩

end Go.Proofs.Ytdibdcbihleflab
