import Derived.Shelf.SlSorted.Search
import Derived.Test.YtfkepoibgmljkaaProg
/- The kit's contracts, laid at this translation by the kit's own command, in plain words. -/
namespace Go.Proofs.Ytfkepoibgmljkaa
open Go.RowKit Go.Shelf

def Try.searchV_ren : Go.Shelf.Ren := ⟨fun | 16 => 31 | n => n, fun | 3 => 3 | 35 => 73 | 4 => 4 | 38 => 88 | n => n, fun | n => n⟩
theorem Try.searchV : Go.Proofs.SlLaysO.n16 Try.prog Try.searchV_ren := {
  mixed := by kernel_rfl
  f16 := Try.func31.trans (congrArg some (by kernel_rfl))
  t3 := Try.underlying3
  a3 := Try.isAgg3
  z3 := Try.sizeOf3
  v3 := Try.zeroValue3
  t4 := Try.underlying4
  a4 := Try.isAgg4
  z4 := Try.sizeOf4
  v4 := Try.zeroValue4
  t35 := Try.underlying73
  a35 := Try.isAgg73
  z35 := Try.sizeOf73
  v35 := Try.zeroValue73
  t38 := Try.underlying88
  a38 := Try.isAgg88
  z38 := Try.sizeOf88
  v38 := Try.zeroValue88 }

end Go.Proofs.Ytfkepoibgmljkaa
