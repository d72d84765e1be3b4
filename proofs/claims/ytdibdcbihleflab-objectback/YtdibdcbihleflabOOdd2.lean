/- What is none of the three kinds, as a commit; and what MustTree, MustCommit do of it. -/
import Derived.Test.YtdibdcbihleflabOOdd
namespace Go.Proofs.Ytdibdcbihleflab
open Go.RowKit

abbrev zC : Value := .agg #[.int .u64 0, .slice none 0 0, .string ⟨#[]⟩, .int .i64 0, .string ⟨#[]⟩]
/-- a block of a commit's five cells -/
def Box5 (W : World) (B : Nat) (a b c d e : Value) : Prop := W.heap[B]? = some (.cells #[a, b, c, d, e] 28 (0, 0))
theorem Box5.lt {W : World} {B : Nat} {a b c d e : Value} (h : Box5 W B a b c d e) : B < W.heap.size := (Array.getElem?_eq_some_iff.1 h).1
theorem Box5.cell {W : World} {B : Nat} {a b c d e : Value} (h : Box5 W B a b c d e) : W.cell? ⟨B, 0, none⟩ = some a ∧ W.cell? ⟨B, 1, none⟩ = some b ∧ W.cell? ⟨B, 2, none⟩ = some c ∧ W.cell? ⟨B, 3, none⟩ = some d ∧ W.cell? ⟨B, 4, none⟩ = some e := by
  have h' : W.heap[B]? = _ := h
  simp [World.cell?, h']
theorem Box5.frozen {W : World} {B : Nat} {a b c d e : Value} (h : Box5 W B a b c d e) : W.frozen? ⟨B, 0, none⟩ = false ∧ W.frozen? ⟨B, 1, none⟩ = false ∧ W.frozen? ⟨B, 2, none⟩ = false ∧ W.frozen? ⟨B, 3, none⟩ = false ∧ W.frozen? ⟨B, 4, none⟩ = false := by
  have h' : W.heap[B]? = _ := h
  simp [World.frozen?, h']
theorem Box5.new (W : World) (a b c d e : Value) : Box5 (W.alloc (.cells #[a, b, c, d, e] 28)) W.heap.size a b c d e := World.alloc_heap_new W _
theorem Box5.kept {W W' : World} {B : Nat} {a b c d e : Value} (h : Box5 W B a b c d e) (hB : Below W.heap.size W W') : Box5 W' B a b c d e := (hB.block B h.lt).trans h
theorem Box5.all {W : World} {B : Nat} {a b c d e : Value} (h : Box5 W B a b c d e) (a' b' c' d' e' : Value) : Box5 (((((W.setCell ⟨B, 0, none⟩ a').setCell ⟨B, 1, none⟩ b').setCell ⟨B, 2, none⟩ c').setCell ⟨B, 3, none⟩ d').setCell ⟨B, 4, none⟩ e') B a' b' c' d' e' := by
  have h' : W.heap[B]? = _ := h
  have hl := h.lt
  unfold Box5
  simp [World.setCell, Array.getElem?_modify, h']
theorem below5 {n0 : Nat} {w W : World} (h : Below n0 w W) {B : Nat} (hB : n0 ≤ B) (a' b' c' d' e' : Value) : Below n0 w (((((W.setCell ⟨B, 0, none⟩ a').setCell ⟨B, 1, none⟩ b').setCell ⟨B, 2, none⟩ c').setCell ⟨B, 3, none⟩ d').setCell ⟨B, 4, none⟩ e') :=
  ((((h.setCell (p := ⟨B, 0, none⟩) hB _).setCell (p := ⟨B, 1, none⟩) hB _).setCell (p := ⟨B, 2, none⟩) hB _).setCell (p := ⟨B, 3, none⟩) hB _).setCell (p := ⟨B, 4, none⟩) hB _

end Go.Proofs.Ytdibdcbihleflab
