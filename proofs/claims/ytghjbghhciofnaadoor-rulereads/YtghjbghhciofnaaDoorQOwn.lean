/- A row that a call puts together; what the document's Quote needs. -/
import Derived.Test.YtghjbghhciofnaaDoorQRef
namespace Go.Proofs.YtghjbghhciofnaaDoor
open Go.RowKit

/-- a row that a call puts together -/
structure Own (w0 : World) (v : Value) (l : List UInt8) (W : World) : Prop where
  row : W.ownsRow w0.heap.size 5 1 v l.length (cellsOf l)
  bel : Below w0.heap.size w0 W
theorem Own.size {w0 W : World} {v : Value} {l : List UInt8} (h : Own w0 v l W) : w0.heap.size ≤ W.heap.size := h.bel.size
theorem Own.below {w0 W W' : World} {v : Value} {l : List UInt8} (h : Own w0 v l W) (hb : Below W.heap.size W W') : Own w0 v l W' :=
  ⟨h.row.kept (row := none) ⟨hb.os, hb.tape, hb.output, hb.size, fun k hk _ => hb.block k hk⟩ (by cases v.ownBlock <;> simp), h.bel.trans (hb.mono h.bel.size)⟩
theorem Own.drew {w0 W : World} {v : Value} {l : List UInt8} (h : Own w0 v l W) : Own w0 v l W.drew :=
  ⟨h.row, ⟨h.bel.os, h.bel.tape, h.bel.output, h.bel.size, h.bel.block⟩⟩
theorem Own.alloc {w0 W : World} {v : Value} {l : List UInt8} (h : Own w0 v l W) (b : Obj) : Own w0 v l (W.alloc b) := h.below ((Below.refl _ _).alloc (Nat.le_refl _) _)
theorem Own.grown {w0 W W' : World} {v v' : Value} {l m : List UInt8} {n : Nat} (h : Own w0 v l W) (hg : W.grownBy W' v.ownBlock) (hn : n = m.length) (hr : W'.ownsRow w0.heap.size 5 1 v' (l.length + n) (cellsOf l ++ cellsOf m)) : Own w0 v' (l ++ m) W' :=
  ⟨by rw [List.length_append, cellsOf_append, ← hn]; exact hr, h.bel.grown hg h.bel.size (fun k hk => (row_block h.row k hk).1)⟩
theorem own_lit (w : World) : Own w (.slice (some ⟨w.heap.size, 0, none⟩) 1 1) [34] (w.alloc (.cells #[.int .u8 34] 5)) :=
  ⟨World.ownsRow_lit w #[.int .u8 34] 1 (Nat.le_refl _) (by unfold maxLen; omega) rfl, (Below.refl _ w).alloc (Nat.le_refl _) _⟩
theorem own_nil (w : World) : Own w (.slice none 0 0) [] w := ⟨World.ownsRow_nil _ _ _ _, Below.refl _ _⟩

theorem take_more (l : List UInt8) (j : Nat) (h : j < l.length) : l.take (j + 1) = l.take j ++ [l.getD j 0] := by
  rw [List.take_succ_eq_append_getElem h, List.getD_eq_getElem?_getD, List.getElem?_eq_getElem h]; rfl
theorem esc_cells2 (z : UInt8) (hi lo : Nat) (h1 : hi = z.toNat / 16) (h2 : lo = z.toNat % 16) :
    (#[.int .u8 92, .int .u8 120, .int .u8 (((hexd hi).toNat : Nat) : Int), .int .u8 (((hexd lo).toNat : Nat) : Int)] : Array Value) = (cellsOf (esc z)).toArray := by
  rw [h1, h2]; rfl

theorem wrap_u8 (n : Nat) (h : n < 256) : IntKind.u8.wrap (n : Int) = (n : Int) := by
  have : ∀ z : Fin 256, IntKind.u8.wrap ((z.val : Nat) : Int) = ((z.val : Nat) : Int) := by decide +kernel
  exact this ⟨n, h⟩

theorem rhexw_any (x : Nat) (w : World) (hx : x < 16) :
    Calls Tryd.prog 59 #[.int .u8 (IntKind.u8.wrap (x : Int))] w fun e w' => e = .returned (.int .u8 ((hexd x).toNat : Int)) ∧ w' = w := by
  rw [wrap_u8 x (by omega)]; exact rhex_any x w hx

end Go.Proofs.YtghjbghhciofnaaDoor
