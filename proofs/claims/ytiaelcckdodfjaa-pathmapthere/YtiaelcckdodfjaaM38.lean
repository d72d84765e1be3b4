import Derived.Test.YtiaelcckdodfjaaM16
import Derived.Laws.AppendOwnNone
/- Rules appended to a row of one's own. -/
namespace Go.Proofs.Ytiaelcckdodfjaa
open Go.RowKit Go.Shelf Go.Maps

theorem rus_news {w : World} {b : Nat} : ∀ (l : List Ru) (off : Nat), (∀ (j : Nat) x, l[j]? = some x → w.cell? ⟨b, off + j * 3, none⟩ = some (.int .i64 x.1) ∧ w.cell? ⟨b, off + j * 3 + 1, none⟩ = some (.string (mk x.2.1)) ∧ w.cell? ⟨b, off + j * 3 + 2, none⟩ = some (.string (mk x.2.2))) →
    ∀ (j : Nat) u, (ruCells l)[j]? = some u → w.cell? ⟨b, off + j, none⟩ = some u
  | [], _, _, j, u, h => by simp [ruCells] at h
  | x :: r, off, hc, 0, u, h => by
    simp [ruCells] at h; subst h
    have := (hc 0 x rfl).1
    simpa using this
  | x :: r, off, hc, 1, u, h => by
    simp [ruCells] at h; subst h
    have := (hc 0 x rfl).2.1
    simpa using this
  | x :: r, off, hc, 2, u, h => by
    simp [ruCells] at h; subst h
    have := (hc 0 x rfl).2.2
    simpa using this
  | x :: r, off, hc, j + 3, u, h => by
    have ih := rus_news r (off + 3) (fun i y hy => by
      have := hc (i + 1) y (by simpa using hy)
      rw [show off + (i + 1) * 3 = off + 3 + i * 3 by omega] at this
      exact this) j u (by simpa [ruCells] using h)
    rw [show off + (j + 3) = off + 3 + j by omega]
    exact ih
theorem row_emptyR (w : World) (base : Nat) (hb : base ≤ w.heap.size) : (w.alloc (.cells #[] 35)).ownsRow base 35 3 (.slice (some ⟨w.heap.size, 0, none⟩) 0 0) 0 (ruCells []) :=
  World.ownsRow_made w #[] 0 hb (by unfold maxLen; omega) rfl
theorem wpList_appR {wr : World} {ops : Array Oper} {rest : List Oper} {o : Oper} {a : Act} {Q : Exit → Act → World → Prop}
    (hgd : o.guard = none) (s x : Operand) (hop : o.op = Op.call { callee := Callee.builtin Builtin.append, args := #[s, x], argTypes := #[22, 22] })
    (base n m c : Nat) (v : Value) (k l : List Ru) (ad : Option Addr) (hs : a.eval s = v) (hx : a.eval x = .slice ad m c)
    (hown : wr.ownsRow base 35 3 v n (ruCells k)) (hb : Rus wr ad m l) (hnil : ad = none → m = 0 ∧ c = 0) (hm : (n + m) * 40 ≤ 140737488355328) (hbase : base ≤ wr.heap.size)
    (hK : ∀ ad' c' w', n + m ≤ c' → w'.ownsRow base 35 3 (.slice ad' (n + m) c') (n + m) (ruCells (k ++ l)) → Below base wr w' → wpList Try.prog ops Q rest (a.put o.dst (.slice ad' (n + m) c')) w') :
    wpList Try.prog ops Q (o :: rest) a wr := by
  obtain ⟨i0, hi, hz0, hz1, hz2⟩ := info_parts infoRule
  cases ad with
  | none =>
    obtain ⟨rfl, rfl⟩ := hnil rfl
    have hl : l = [] := List.eq_nil_of_length_eq_zero hb.1
    subst hl
    obtain ⟨ad', c', rfl, hc', _⟩ := row_shapeR hown
    refine wpList_append_own_none hgd s x 22 hop base 35 i0 3 Try.underlying22 hi _ n _ hs hown hx ?_
    have := hK ad' c' wr (by omega) (by simpa using hown) (Below.refl _ _)
    simpa using this
  | some ad =>
    refine wpList_append_own_at _ hgd s x 22 hop base 35 i0 _ 3 40 Try.underlying22 hi hz0 hz1 hz2 rfl (by omega) v n _ hs hown ad m c (ruCells l) hx (by rw [ruCells_len, hb.1]) ?_ (ruCells_one l) (by unfold maxLen; omega) hm hbase ?_
    · intro j u hj
      have hl := hb.1
      by_cases hm0 : 0 < m
      · obtain ⟨b, off, e, hc⟩ := hb.2 hm0
        cases e
        rw [Addr.add_lit]
        exact rus_news l off hc j u hj
      · have : l = [] := List.eq_nil_of_length_eq_zero (by omega)
        subst this
        simp [ruCells] at hj
    · intro v' w' h1 h2 _ _
      obtain ⟨ad', c', rfl, hc', _⟩ := row_shapeR h1
      exact hK ad' c' w' hc' (by rw [ruCells_append]; exact h1) ((Below.refl base wr).grown h2 hbase (fun k hk => (hown.lt k hk).1))
end Go.Proofs.Ytiaelcckdodfjaa
