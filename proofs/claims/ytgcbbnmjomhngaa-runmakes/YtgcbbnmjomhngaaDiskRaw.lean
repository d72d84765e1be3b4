/- The walk of the one method by which files change: a raw write is done whole and counted, or not at all. -/
import Derived.Test.YtgcbbnmjomhngaaDiskPlain
import Derived.Outline
namespace Go.Proofs.Ytgcbbnmjomhngaa
open Go.RowKit Go.Maps

def DG.can (S : DG) : Bool := !S.cut || S.left != 0
def DG.done (S : DG) : DG := { S with wr := S.wr + 1, left := if S.cut then S.left - 1 else S.left }

theorem turn_setCell (w : World) (p o : Nat) (v : Value) : Turn (fun k => k = p) w (w.setCell ⟨p, o, none⟩ v) :=
  ⟨rfl, rfl, rfl, by simp [World.setCell], fun k _ hk => Below.heap_setCell _ _ _ _ hk⟩

end Go.Proofs.Ytgcbbnmjomhngaa
