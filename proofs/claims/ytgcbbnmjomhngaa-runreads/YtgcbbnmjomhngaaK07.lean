import Derived.Test.YtgcbbnmjomhngaaK06
/- Laws for the walk: one byte appended to a row of bytes of the call's own, with room and without; bytes as a string. -/
namespace Go.Proofs.Ytgcbbnmjomhngaa
open Go.RowKit

/-- append(out, c) where out has room: the byte was laid into a block of its own just before -/
theorem wpList_push_fits {wr : World} {ops : Array Oper} {rest : List Oper} {o : Oper} {a : Act} {Q : Exit → Act → World → Prop} (z : Int)
    (hgd : o.guard = none) (s x : Operand) (hop : o.op = Op.call { callee := Callee.builtin Builtin.append, args := #[s, x], argTypes := #[25, 25] })
    (base g m cap : Nat) (xs : List Value) (hs : a.eval s = .slice (some ⟨g, 0, none⟩) m cap) (hx : a.eval x = .slice (some ⟨wr.heap.size, 0, none⟩) 1 1)
    (hown : wr.ownsRow base 5 1 (.slice (some ⟨g, 0, none⟩) m cap) m xs) (hfit : m + 1 ≤ cap)
    (hK : ∀ w', w'.ownsRow base 5 1 (.slice (some ⟨g, 0, none⟩) (m + 1) cap) (m + 1) (xs ++ [.int .u8 z]) → wr.grownBy w' (some g) → wpList Try.prog ops Q rest (a.put o.dst (.slice (some ⟨g, 0, none⟩) (m + 1) cap)) w') :
    wpList Try.prog ops Q (o :: rest) a (wr.alloc (.cells #[.int .u8 z] 5)) := by
  obtain ⟨i0, hi, hz0, hz1, hz2⟩ := info_parts Try.info5
  refine wpList_append_fits _ hgd s x 25 hop base 5 i0 1 Try.underlying25 hi hz1 g m cap xs hs (hown.alloc _) ⟨wr.heap.size, 0, none⟩ 1 1 [.int .u8 z] hx rfl ?_ ?_ hfit ?_
  · intro j u hj
    match j, hj with
    | 0, hj => simp at hj; subst hj; simp [Addr.add]
  · intro u hu; simp at hu; subst hu; rfl
  · intro w' h1 h2
    exact hK w' h1 (grownBy_trans (World.grownBy_alloc _ _ _) h2)

/-- append(out, c) where nothing is known of the room: the new value, and where it lies, are the tape's -/
theorem wpList_push_own {wr : World} {ops : Array Oper} {rest : List Oper} {o : Oper} {a : Act} {Q : Exit → Act → World → Prop} (z : Int)
    (hgd : o.guard = none) (s x : Operand) (hop : o.op = Op.call { callee := Callee.builtin Builtin.append, args := #[s, x], argTypes := #[25, 25] })
    (base m : Nat) (v : Value) (xs : List Value) (hs : a.eval s = v) (hx : a.eval x = .slice (some ⟨wr.heap.size, 0, none⟩) 1 1)
    (hown : wr.ownsRow base 5 1 v m xs) (hm : m + 1 ≤ 140737488355328) (hb : base ≤ wr.heap.size)
    (hK : ∀ v' w', w'.ownsRow base 5 1 v' (m + 1) (xs ++ [.int .u8 z]) → Below base wr w' → wpList Try.prog ops Q rest (a.put o.dst v') w') :
    wpList Try.prog ops Q (o :: rest) a (wr.alloc (.cells #[.int .u8 z] 5)) := by
  obtain ⟨i0, hi, hz0, hz1, hz2⟩ := info_parts Try.info5
  refine wpList_append_own _ hgd s x 25 hop base 5 i0 (.int .u8 0) 1 1 Try.underlying25 hi hz0 hz1 hz2 rfl (by omega) v m xs hs (hown.alloc _) ⟨wr.heap.size, 0, none⟩ 1 1 [.int .u8 z] hx rfl ?_ ?_ (by unfold maxLen; omega) (by omega) (by simp; omega) ?_
  · intro j u hj
    match j, hj with
    | 0, hj => simp at hj; subst hj; simp [Addr.add]
  · intro u hu; simp at hu; subst hu; rfl
  · intro v' w' h1 h2 _
    exact hK v' w' h1 (((Below.refl base wr).alloc hb _).grown h2 (by simp; omega) (fun k hk => (hown.lt k hk).1))

/-- what a value that owns bytes is -/
theorem ownsRow_open {w : World} {B n : Nat} {v : Value} {l : List UInt8} (h : w.ownsRow B 5 1 v n (cellsOf l)) : ∃ ad cap, v = .slice ad n cap ∧ Bytes w ad n l ∧ n = l.length ∧ (∀ x, ad = some x → B ≤ x.block ∧ x.block < w.heap.size) := by
  have hll : l.length = n := by have := h.1; rw [cellsOf_length] at this; omega
  rcases h.2 with ⟨rfl, rfl⟩ | ⟨g, cap, cur, rfl, _⟩
  · exact ⟨none, 0, rfl, ⟨hll, fun h0 => by omega⟩, hll.symm, by simp⟩
  · refine ⟨some ⟨g, 0, none⟩, cap, rfl, (ownsRow_bytes h).1, hll.symm, fun x hx => ?_⟩
    obtain rfl := Option.some.inj hx
    exact (ownsRow_bytes h).2

end Go.Proofs.Ytgcbbnmjomhngaa
