/- The document's check of a tree. -/
import Derived.Test.YtdibdcbihleflabOTree
import Derived.Deep.QuietTactic
import Derived.BigQuiet
namespace Go.Proofs.Ytdibdcbihleflab
open Go.RowKit

attribute [local go_sem] Oper.semAt_some

theorem sle_none (nm : ByteArray) (h : (spot (bs nm)).1 = 0) : sle nm ⟨#[]⟩ = false := by
  have hne : nm.toList ≠ [] := by
    intro e
    rw [toList_bs] at e
    rw [e] at h
    exact absurd h (by decide)
  unfold sle
  have : (⟨#[]⟩ : ByteArray).toList = [] := by rw [toList_bs]; rfl
  rw [this]
  cases hn : nm.toList with
  | nil => exact absurd hn hne
  | cons x r => rfl

end Go.Proofs.Ytdibdcbihleflab
