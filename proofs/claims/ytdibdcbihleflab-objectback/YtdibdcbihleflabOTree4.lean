/- A tree's links, and what it answers in all. -/
import Derived.Test.YtdibdcbihleflabOTree3
namespace Go.Proofs.Ytdibdcbihleflab
open Go.RowKit

attribute [local go_sem] Oper.semAt_some

theorem infoId : (Try.prog.info? 25).map (fun i => (i.zero, i.size, i.bytes)) = some (some (.int .u64 0), 1, 8) := by kernel_rfl
theorem infoEntry : (Try.prog.info? 56).map (fun i => (i.zero, i.size, i.bytes)) = some (some (.agg #[.string ⟨#[]⟩, .bool false, .int .u64 0]), 3, 32) := by kernel_rfl
def idsOf (l : List Ent) : List Int := l.map fun x => x.2.2
theorem cells_one (W : World) (t : TypeId) (a : Value) : ∀ (j : Nat) u, [a][j]? = some u → (W.alloc (.cells #[a] t)).cell? (Addr.add ⟨W.heap.size, 0, none⟩ j) = some u := by
  intro j u hj
  match j, hj with
  | 0, hj => simp at hj; subst hj; simp [Addr.add]
theorem idsOf_take (l : List Ent) (k : Nat) (x : Ent) (h : l[k]? = some x) : idsOf (l.take (k + 1)) = idsOf (l.take k) ++ [x.2.2] := by
  unfold idsOf
  rw [List.take_add_one, h]
  simp

end Go.Proofs.Ytdibdcbihleflab
