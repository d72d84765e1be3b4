/- A slice of texts. -/
import Derived.Test.YtghjbghhciofnaaDoorNCheck
namespace Go.Proofs.YtghjbghhciofnaaDoor
open Go.RowKit

def Strs (w : World) (a : Option Addr) (n : Nat) (l : List ByteArray) : Prop := l.length = n ∧ (0 < n → ∃ b off, a = some ⟨b, off, none⟩ ∧ ∀ (j : Nat) x, l[j]? = some x → w.cell? ⟨b, off + j, none⟩ = some (.string x))
theorem Strs.kept {w w' : World} {a : Option Addr} {n : Nat} {l : List ByteArray} (h : Strs w a n l) (hB : Below w.heap.size w w') : Strs w' a n l :=
  ⟨h.1, fun h0 => by
    obtain ⟨b, off, e, hc⟩ := h.2 h0
    exact ⟨b, off, e, fun j x hx => (hB.cell (p := ⟨b, off + j, none⟩) (World.block_lt_of_cell? w _ (hc j x hx))).trans (hc j x hx)⟩⟩
theorem strs_new (w : World) (l : List ByteArray) (t : TypeId) (n : Nat) (hn : l.length = n) : Strs (w.alloc (.cells (l.map Value.string).toArray t)) (some ⟨w.heap.size, 0, none⟩) n l :=
  ⟨hn, fun _ => ⟨w.heap.size, 0, rfl, fun j x hx => by
    have h := World.alloc_heap_new w (.cells (l.map Value.string).toArray t)
    simp only [World.cell?, h]
    show (l.map Value.string).toArray[0 + j]? = _
    simp [hx]⟩⟩
end Go.Proofs.YtghjbghhciofnaaDoor
