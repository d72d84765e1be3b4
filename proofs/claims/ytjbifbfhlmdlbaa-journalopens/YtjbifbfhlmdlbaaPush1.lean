/- append of one value to a row that is owned, as a step of a walk; at whatever types. -/
import Derived.Test.YtjbifbfhlmdlbaaBytes
import Derived.Test.YtjbifbfhlmdlbaaProg
import Derived.Outline
import Derived.Maps.AppendAt
namespace Go.Proofs.Ytjbifbfhlmdlbaa
open Go.RowKit

theorem run_push1 (w : World) (T E ty : TypeId) (i0 : TypeInfo) (z : Value) (by_ : Nat) (hu : Try.prog.underlying T = some (.slice E)) (hi : Try.prog.info? E = some i0) (hz0 : i0.zero = some z) (hz1 : i0.size = 1) (hz2 : i0.bytes = by_) (hzc : z.cells.size = 1)
    (v : Value) (n : Nat) (xs : List Value) (hown : w.ownsRow 0 E 1 v n xs) (G : Nat) (x : Value) (hx : w.cell? ⟨G, 0, none⟩ = some x) (h1 : x.oneCell' = true) (hn : n + 1 ≤ maxLen) (hm : (n + 1) * by_ ≤ 140737488355328) :
    ∃ v' w', (Builtin.append_ #[T, T] ty #[v, .slice (some ⟨G, 0, none⟩) 1 1]).run Try.prog w = .ok v' w' ∧ w'.ownsRow 0 E 1 v' (n + 1) (xs ++ [x]) ∧ w.grownBy w' v.ownBlock ∧ (v'.ownBlock = v.ownBlock ∨ v'.ownBlock = some w.heap.size) := by
  obtain ⟨v', w', h2, h3, h4, _, h5⟩ := run_append_own_at (P := Try.prog) w 0 T ty E i0 z 1 by_ hu hi hz0 hz1 hz2 hzc (by omega) v n xs hown ⟨G, 0, none⟩ 1 1 [x] (by simp) (by
    intro j u hj
    cases j with
    | zero => simp at hj; subst hj; rw [Addr.add_lit]; exact hx
    | succ j => simp at hj) (by simp [h1]) hn hm (Nat.zero_le _)
  exact ⟨v', w', h2, h3, h4, h5⟩

theorem step_push1 (w : World) {ops : Array Oper} {o : Oper} {a : Act} {K : Act → World → Prop} {Q : Exit → Act → World → Prop} {F : Prop} (hgd : o.guard = none) (s y : Operand) (T E : TypeId) (i0 : TypeInfo) (z : Value) (by_ : Nat)
    (ho : o.op = .call { callee := .builtin .append, args := #[s, y], argTypes := #[T, T] })
    (hu : Try.prog.underlying T = some (.slice E)) (hi : Try.prog.info? E = some i0) (hz0 : i0.zero = some z) (hz1 : i0.size = 1) (hz2 : i0.bytes = by_) (hzc : z.cells.size = 1)
    (v : Value) (n : Nat) (xs : List Value) (hs : a.eval s = v) (hown : w.ownsRow 0 E 1 v n xs) (G : Nat) (x : Value) (hy : a.eval y = .slice (some ⟨G, 0, none⟩) 1 1) (hx : w.cell? ⟨G, 0, none⟩ = some x) (h1 : x.oneCell' = true) (hn : n + 1 ≤ maxLen) (hm : (n + 1) * by_ ≤ 140737488355328)
    (h : ∀ v' w', w'.ownsRow 0 E 1 v' (n + 1) (xs ++ [x]) → w.grownBy w' v.ownBlock → (v'.ownBlock = v.ownBlock ∨ v'.ownBlock = some w.heap.size) → K (a.put o.dst v') w') :
    if Region.wanted o (yielded ops a.tmps) = true then Oper.wp Try.prog o a w K Q else F := by
  have hw : Region.wanted o (yielded ops a.tmps) = true := by simp [Region.wanted, hgd]
  rw [if_pos hw]
  obtain ⟨v', w', hr, h2, h3, h4⟩ := run_push1 w T E o.type i0 z by_ hu hi hz0 hz1 hz2 hzc v n xs hown G x hx h1 hn hm
  unfold Oper.wp execOp
  simp only [ho, resolve, invoke, builtin, Sem.run_bind, Sem.run_pure, Result.andThen_ok, List.map_toArray, List.map_cons, List.map_nil, hs, hy, hr]
  exact h v' w' h2 h3 h4

theorem wpList_push1 (w : World) {ops : Array Oper} {rest : List Oper} {o : Oper} {a : Act} {Q : Exit → Act → World → Prop} (hgd : Region.wanted o (yielded ops a.tmps) = true) (s y : Operand) (T E : TypeId) (i0 : TypeInfo) (z : Value) (by_ : Nat)
    (ho : o.op = .call { callee := .builtin .append, args := #[s, y], argTypes := #[T, T] })
    (hu : Try.prog.underlying T = some (.slice E)) (hi : Try.prog.info? E = some i0) (hz0 : i0.zero = some z) (hz1 : i0.size = 1) (hz2 : i0.bytes = by_) (hzc : z.cells.size = 1)
    (v : Value) (n : Nat) (xs : List Value) (hs : a.eval s = v) (hown : w.ownsRow 0 E 1 v n xs) (G : Nat) (x : Value) (hy : a.eval y = .slice (some ⟨G, 0, none⟩) 1 1) (hx : w.cell? ⟨G, 0, none⟩ = some x) (h1 : x.oneCell' = true) (hn : n + 1 ≤ maxLen) (hm : (n + 1) * by_ ≤ 140737488355328)
    (h : ∀ v' w', w'.ownsRow 0 E 1 v' (n + 1) (xs ++ [x]) → w.grownBy w' v.ownBlock → (v'.ownBlock = v.ownBlock ∨ v'.ownBlock = some w.heap.size) → wpList Try.prog ops Q rest (a.put o.dst v') w') : wpList Try.prog ops Q (o :: rest) a w := by
  obtain ⟨v', w', hr, h2, h3, h4⟩ := run_push1 w T E o.type i0 z by_ hu hi hz0 hz1 hz2 hzc v n xs hown G x hx h1 hn hm
  unfold wpList
  rw [if_pos hgd]
  unfold Oper.wp execOp
  simp only [ho, resolve, invoke, builtin, Sem.run_bind, Sem.run_pure, Result.andThen_ok, List.map_toArray, List.map_cons, List.map_nil, hs, hy, hr]
  exact .inl (h v' w' h2 h3 h4)

end Go.Proofs.Ytjbifbfhlmdlbaa
