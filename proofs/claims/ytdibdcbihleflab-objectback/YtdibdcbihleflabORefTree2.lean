/- The document's bytes of a tree. -/
import Derived.Test.YtdibdcbihleflabOTree4
namespace Go.Proofs.Ytdibdcbihleflab
open Go.RowKit

attribute [local go_sem] Oper.semAt_some

/-- bytes put together in a row of the call's own -/
structure RO (w : World) (l : List UInt8) (v : Value) (W : World) : Prop where
  own : OwnB w.heap.size l v W
  bel : Below w.heap.size w W
def Keeps' (W W' : World) : Prop := ∀ (K : Nat) (cs : Array Value) (t : TypeId), W.heap[K]? = some (.cells cs t (0, 0)) → t ≠ 5 → W'.heap[K]? = some (.cells cs t (0, 0))
theorem RO.below {w W W' : World} {l : List UInt8} {v : Value} (h : RO w l v W) (hb : Below W.heap.size W W') : RO w l v W' :=
  ⟨⟨h.own.row.kept (row := none) ⟨hb.os, hb.tape, hb.output, hb.size, fun k hk _ => hb.block k hk⟩ (by cases v.ownBlock <;> simp)⟩, h.bel.trans (hb.mono h.bel.size)⟩
theorem RO.alloc {w W : World} {l : List UInt8} {v : Value} (h : RO w l v W) (o : Obj) : RO w l v (W.alloc o) := h.below ((Below.refl _ _).alloc (Nat.le_refl _) _)
theorem wpList_ro (w W : World) {ops : Array Oper} {rest : List Oper} {o : Oper} {a : Act} {Q : Exit → Act → World → Prop} (hgd : o.guard = none) (s x : Operand)
    (ho : o.op = .call { callee := .builtin .append, args := #[s, x], argTypes := #[22, 22] })
    (v : Value) (l : List UInt8) (hs : a.eval s = v) (h : RO w l v W) (ad : Option Addr) (m c : Nat) (k : List UInt8) (hx : a.eval x = .slice ad m c) (hb : Bytes W ad m k) (hnil : ad = none → m = 0 ∧ c = 0) (hm : l.length + m ≤ 140737488355328)
    (hc : ∀ v' W', RO w (l ++ k) v' W' → Keeps' W W' → wpList Try.prog ops Q rest (a.put o.dst v') W') : wpList Try.prog ops Q (o :: rest) a W := by
  refine wpList_app W w.heap.size h.bel.size hgd s x ho v l.length _ hs h.own.row ad m c k hx hb hnil hm fun v' W' h2 h3 _ => hc v' W' ⟨⟨?_⟩, h.bel.trans (below_gr h.own.row h.bel.size h3)⟩ fun K cs t hK ht => ?_
  · rw [List.length_append, hb.1, cellsOf_append]
    exact h2
  · refine (h3.block K (Array.getElem?_eq_some_iff.1 hK).1 (fun e => ?_)).trans hK
    obtain ⟨_, _, cur, hcur⟩ := row_block h.own.row K e.symm
    rw [hK] at hcur
    cases hcur
    exact ht rfl
theorem Keeps'.box3 {W W' : World} {g : Nat} {u0 u1 u2 : Value} (h : Keeps' W W') (hb : Box3 W g u0 u1 u2) : Box3 W' g u0 u1 u2 := h g _ _ hb (by decide)

end Go.Proofs.Ytdibdcbihleflab
