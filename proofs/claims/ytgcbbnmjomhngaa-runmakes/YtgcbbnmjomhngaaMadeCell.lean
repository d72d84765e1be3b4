/- A cell of a row of bytes just made. -/
import Derived.Test.YtgcbbnmjomhngaaRoom
namespace Go.Proofs.Ytgcbbnmjomhngaa
open Go.RowKit

theorem made_cell (H n : Nat) (w : World) (hg : w.heap[H]? = some (.cells (madeCells #[Value.int .u8 0] n) 5 (0, 0))) (j : Nat) (h : j < n) : w.cell? ⟨H, j, none⟩ = some (.int .u8 0) ∧ w.frozen? ⟨H, j, none⟩ = false := by
  constructor
  · rw [cell_of_row w H j _ _ _ hg]
    simp [madeCells, h, Nat.mod_one]
  · simp [World.frozen?, hg]

theorem str_bt (s : ByteArray) (k : Nat) (h : k < s.size) : (s[k].toNat : Int) = bt s.data.toList k := by
  unfold bt
  rw [List.getD_eq_getElem?_getD, List.getElem?_eq_getElem (by simpa using h)]
  rfl

end Go.Proofs.Ytgcbbnmjomhngaa
