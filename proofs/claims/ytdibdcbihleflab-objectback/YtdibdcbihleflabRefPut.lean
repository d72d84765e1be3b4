/- The walks of the document's forms: Both, Uint, Word, Text. -/
import Derived.Test.YtdibdcbihleflabPut
import Derived.Test.YtdibdcbihleflabMadeCell
namespace Go.Proofs.Ytdibdcbihleflab
open Go.RowKit

/-- one byte more -/
theorem take_snoc (l : List UInt8) (k : Nat) (h : k < l.length) (z : Int) (hz : z = bt l k) : cellsOf (l.take k) ++ [Value.int .u8 z] = cellsOf (l.take (k + 1)) := by
  rw [cellsOf_snoc (l.take k) l[k] z (by rw [hz]; simp [bt, h]), List.take_succ_eq_append_getElem h]

/-- the row of eight cells behind k rounds -/
structure WideRow (w : World) (H x k : Nat) : Prop where
  cell : ∀ j, j < 8 → w.cell? ⟨H, j, none⟩ = some (.int .u8 (wideCell x k j))
  free : ∀ j, j < 8 → w.frozen? ⟨H, j, none⟩ = false

theorem WideRow.step {w : World} {H x k j : Nat} (h : WideRow w H x k) (hj : j + k = 7) (v : Int) (hv : v = ((x / 256 ^ k % 256 : Nat) : Int)) : WideRow (w.setCell ⟨H, j, none⟩ (.int .u8 v)) H x (k + 1) := by
  subst hv
  refine ⟨fun i hi => ?_, fun i hi => by rw [World.frozen?_setCell]; exact h.free i hi⟩
  by_cases hij : i = j
  · subst hij
    rw [wideCell_new x k i hj]
    exact World.cell?_setCell_same _ _ _ (h.cell i hi)
  · rw [World.cell?_setCell_other _ _ _ _ (fun e => hij (by injection e with _ e2; exact e2.symm)), wideCell_old x k j hj i hij]
    exact h.cell i hi

theorem WideRow.bytes {w : World} {H x : Nat} (h : WideRow w H x 8) : Bytes w (some ⟨H, 0, none⟩) 8 (wide x) := by
  refine ⟨wideTo_len x 8, fun _ => ⟨H, 0, rfl, fun i hi => ?_⟩⟩
  rw [Nat.zero_add, h.cell i hi]
  unfold wide
  rw [wideTo_bt x i 8 hi]
  unfold wideCell
  rw [if_pos (by omega)]

end Go.Proofs.Ytdibdcbihleflab
