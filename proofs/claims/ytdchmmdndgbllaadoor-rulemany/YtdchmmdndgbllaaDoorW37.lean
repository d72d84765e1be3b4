import Derived.Test.YtdchmmdndgbllaaDoorW35
import Derived.Test.YtdchmmdndgbllaaDoorW36
/- A region that draws its order, in a round of a range over a function, by the laws of GRegion. Of no program. -/
namespace Go.Proofs.YtdchmmdndgbllaaDoor
open Go.RowKit Go.Shelf
theorem region_G_round {n : Nat} {P : Program} {id : Nat} {l : List Oper} {Q : Exit → Act → World → Prop} {S : Array Bool → World → Prop} {a : Act} {w : World} {r : Nat} (hm : P.follows .mixedOrders = true) (hd : l.all noDefer = true) (hQ : ¬ LetsOut Q)
    (h : wpAnyG P .any l.toArray Q S l.toArray.size (Array.replicate l.toArray.size false) a w.drew) : (Code.region id l.toArray true).wpIn (Fence.wide.inRound r) n P Q a w := by
  refine wpIn_region_any hm (any_round r rfl (fun i o ho => ?_) _ _ _ _ (any_wide hQ _ _ _ _ (wpAny_of_G _ _ _ _ h)))
  rw [List.all_eq_true] at hd
  refine hd o ?_
  have : l[i]? = some o := by simpa using ho
  exact List.mem_of_getElem? this
end Go.Proofs.YtdchmmdndgbllaaDoor
