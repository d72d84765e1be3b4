/- Laws for the walk: bytes, or one byte, appended to a row of the call's own, the new value written out as a slice. -/
import Derived.Test.YtkfmihbbmafolabRoom
import Derived.Laws.AppendOwnNone
namespace Go.Proofs.Ytkfmihbbmafolab
open Go.RowKit

theorem ownsRow_shape {w : World} {B n : Nat} {v : Value} {xs : List Value} (h : w.ownsRow B 5 1 v n xs) : ∃ ad c, v = .slice ad n c := by
  rcases h.2 with ⟨rfl, rfl⟩ | ⟨g, cap, cur, rfl, _⟩
  · exact ⟨none, 0, rfl⟩
  · exact ⟨_, _, rfl⟩

theorem wpList_append_bytes {wr : World} {ops : Array Oper} {rest : List Oper} {o : Oper} {a : Act} {Q : Exit → Act → World → Prop}
    (hgd : o.guard = none) (s x : Operand) (hop : o.op = Op.call { callee := Callee.builtin Builtin.append, args := #[s, x], argTypes := #[22, 22] })
    (base n m c : Nat) (v : Value) (xs : List Value) (l : List UInt8) (ad : Option Addr) (hs : a.eval s = v) (hx : a.eval x = .slice ad m c)
    (hown : wr.ownsRow base 5 1 v n xs) (hb : Bytes wr ad m l) (hnil : ad = none → m = 0 ∧ c = 0) (hm : n + m ≤ 140737488355328) (hbase : base ≤ wr.heap.size)
    (hK : ∀ ad' c' w', w'.ownsRow base 5 1 (.slice ad' (n + m) c') (n + m) (xs ++ cellsOf l) → Below base wr w' → wpList Try.prog ops Q rest (a.put o.dst (.slice ad' (n + m) c')) w') :
    wpList Try.prog ops Q (o :: rest) a wr := by
  obtain ⟨i0, hi, hz0, hz1, hz2⟩ := info_parts Try.info5
  cases ad with
  | none =>
    obtain ⟨rfl, rfl⟩ := hnil rfl
    have hl : l = [] := List.eq_nil_of_length_eq_zero hb.1
    subst hl
    obtain ⟨ad', c', rfl⟩ := ownsRow_shape hown
    refine wpList_append_own_none hgd s x 22 hop base 5 i0 1 Try.underlying22 hi _ n xs hs hown hx ?_
    have := hK ad' c' wr (by simpa [cellsOf] using hown) (Below.refl _ _)
    simpa using this
  | some ad =>
    refine wpList_append_own _ hgd s x 22 hop base 5 i0 (.int .u8 0) 1 1 Try.underlying22 hi hz0 hz1 hz2 rfl (by omega) v n xs hs hown ad m c (cellsOf l) hx (by rw [cellsOf_length, hb.1]; omega) ?_ (cellsOf_one l) (by unfold maxLen; omega) (by omega) hbase ?_
    · intro j u hj
      have hjl : j < l.length := by have := (List.getElem?_eq_some_iff.1 hj).1; rw [cellsOf_length] at this; exact this
      have hl := hb.1
      obtain ⟨b, off, hx', hc⟩ := hb.2 (by omega)
      obtain rfl := Option.some.inj hx'
      rw [cellsOf_get l j hjl] at hj
      rw [Addr.add_lit, hc j (by omega)]
      exact hj
    · intro v' w' h1 h2 _
      obtain ⟨ad', c', rfl⟩ := ownsRow_shape h1
      exact hK ad' c' w' h1 ((Below.refl base wr).grown h2 hbase (fun k hk => (hown.lt k hk).1))

theorem wpList_append_byte1 {wr : World} {ops : Array Oper} {rest : List Oper} {o : Oper} {a : Act} {Q : Exit → Act → World → Prop} (z : Int)
    (hgd : o.guard = none) (s x : Operand) (hop : o.op = Op.call { callee := Callee.builtin Builtin.append, args := #[s, x], argTypes := #[22, 22] })
    (base m : Nat) (v : Value) (xs : List Value) (hs : a.eval s = v) (hx : a.eval x = .slice (some ⟨wr.heap.size, 0, none⟩) 1 1)
    (hown : wr.ownsRow base 5 1 v m xs) (hm : m + 1 ≤ 140737488355328) (hb : base ≤ wr.heap.size)
    (hK : ∀ ad' c' w', w'.ownsRow base 5 1 (.slice ad' (m + 1) c') (m + 1) (xs ++ [.int .u8 z]) → Below base wr w' → wpList Try.prog ops Q rest (a.put o.dst (.slice ad' (m + 1) c')) w') :
    wpList Try.prog ops Q (o :: rest) a (wr.alloc (.cells #[.int .u8 z] 5)) := by
  obtain ⟨i0, hi, hz0, hz1, hz2⟩ := info_parts Try.info5
  refine wpList_append_own _ hgd s x 22 hop base 5 i0 (.int .u8 0) 1 1 Try.underlying22 hi hz0 hz1 hz2 rfl (by omega) v m xs hs (hown.alloc _) ⟨wr.heap.size, 0, none⟩ 1 1 [.int .u8 z] hx rfl ?_ ?_ (by unfold maxLen; omega) (by omega) (by simp; omega) ?_
  · intro j u hj
    match j, hj with
    | 0, hj => simp at hj; subst hj; simp [Addr.add]
  · intro u hu; simp at hu; subst hu; rfl
  · intro v' w' h1 h2 _
    obtain ⟨ad', c', rfl⟩ := ownsRow_shape h1
    exact hK ad' c' w' h1 (((Below.refl base wr).alloc hb _).grown h2 (by simp; omega) (fun k hk => (hown.lt k hk).1))

/-- an empty list made in place owns nothing -/
theorem ownsRow_empty (w : World) (base : Nat) (hb : base ≤ w.heap.size) : (w.alloc (.cells #[] 5)).ownsRow base 5 1 (.slice (some ⟨w.heap.size, 0, none⟩) 0 0) 0 [] :=
  World.ownsRow_made w #[] 0 hb (by unfold maxLen; omega) rfl

theorem ownsRow_slice_bytes {w : World} {B n c : Nat} {ad : Option Addr} {l : List UInt8} (h : w.ownsRow B 5 1 (.slice ad n c) n (cellsOf l)) : Bytes w ad n l := by
  have hll : l.length = n := by have := h.1; rw [cellsOf_length] at this; omega
  rcases h.2 with ⟨hv, hn⟩ | ⟨g, cap, cur, hv, _⟩
  · exact ⟨hll, fun h0 => by omega⟩
  · injection hv with h1 h2 h3
    subst h1; subst h3
    exact (ownsRow_bytes h).1

end Go.Proofs.Ytkfmihbbmafolab
