/- Laws for the walk: texts appended to a row of the call's own; a row of texts made with room. -/
import Derived.Test.YtadmpobnpnbgoaaDoorNMake
import Derived.OwnWalk
import Derived.Laws.AppendOwnNone
namespace Go.Proofs.YtadmpobnpnbgoaaDoor
open Go.RowKit

theorem infoString : (Tryd.prog.info? 9).map (fun i => (i.zero, i.size, i.bytes)) = some (some (.string ⟨#[]⟩), 1, 16) := by kernel_rfl
theorem srow_shape {w : World} {B n : Nat} {v : Value} {xs : List Value} (h : w.ownsRow B 9 1 v n xs) : ∃ ad c, v = .slice ad n c ∧ n ≤ c ∧ c ≤ maxLen := by
  rcases h.2 with ⟨rfl, rfl⟩ | ⟨g, cap, cur, rfl, _, _, h1, h2, _⟩
  · exact ⟨none, 0, rfl, Nat.le_refl _, Nat.zero_le _⟩
  · exact ⟨_, _, rfl, h1, h2⟩
theorem srow_strs {w : World} {base n : Nat} {a : Option Addr} {c : Nat} {l : List ByteArray} (h : w.ownsRow base 9 1 (.slice a n c) n (l.map Value.string)) : Strs w a n l := by
  have hl : l.length = n := by have := h.1; simpa using this
  rcases h.2 with ⟨e, rfl⟩ | ⟨g, cap, cur, e, _, hg, hc, _, _, ht⟩
  · exact ⟨hl, fun h0 => absurd h0 (Nat.lt_irrefl _)⟩
  · injection e with e1 e2 e3
    subst e1
    refine ⟨hl, fun _ => ⟨g, 0, rfl, fun j x hx => ?_⟩⟩
    have hj : j < n := by rw [← hl]; exact (List.getElem?_eq_some_iff.1 hx).1
    have e : (cur.toList.take (n * 1))[j]? = some (.string x) := by rw [ht, List.getElem?_map, hx]; rfl
    rw [List.getElem?_take_of_lt (by omega)] at e
    simp only [World.cell?, hg]
    show cur[0 + j]? = _
    rw [Nat.zero_add, ← Array.getElem?_toList]; exact e

theorem wpList_append_strs {wr : World} {ops : Array Oper} {rest : List Oper} {o : Oper} {a : Act} {Q : Exit → Act → World → Prop}
    (hgd : o.guard = none) (s x : Operand) (hop : o.op = Op.call { callee := Callee.builtin Builtin.append, args := #[s, x], argTypes := #[29, 29] })
    (base n m c : Nat) (v : Value) (k l : List ByteArray) (ad : Option Addr) (hs : a.eval s = v) (hx : a.eval x = .slice ad m c)
    (hown : wr.ownsRow base 9 1 v n (k.map Value.string)) (hb : Strs wr ad m l) (hnil : ad = none → m = 0 ∧ c = 0) (hm : n + m ≤ 1000000) (hbase : base ≤ wr.heap.size)
    (hK : ∀ ad' c' w', n + m ≤ c' → c' ≤ maxLen → w'.ownsRow base 9 1 (.slice ad' (n + m) c') (n + m) ((k ++ l).map Value.string) → Below base wr w' → wpList Tryd.prog ops Q rest (a.put o.dst (.slice ad' (n + m) c')) w') :
    wpList Tryd.prog ops Q (o :: rest) a wr := by
  obtain ⟨i0, hi, hz0, hz1, hz2⟩ := info_parts infoString
  cases ad with
  | none =>
    obtain ⟨rfl, rfl⟩ := hnil rfl
    have hl : l = [] := List.eq_nil_of_length_eq_zero hb.1
    subst hl
    obtain ⟨ad', c', rfl, hc', hc2⟩ := srow_shape hown
    refine wpList_append_own_none hgd s x 29 hop base 9 i0 1 Tryd.underlying29 hi _ n _ hs hown hx ?_
    have := hK ad' c' wr (by omega) hc2 (by simpa using hown) (Below.refl _ _)
    simpa using this
  | some ad =>
    refine wpList_append_own _ hgd s x 29 hop base 9 i0 (.string ⟨#[]⟩) 1 16 Tryd.underlying29 hi hz0 hz1 hz2 rfl (by omega) v n _ hs hown ad m c (l.map Value.string) hx (by rw [List.length_map, hb.1]; omega) ?_ (fun u hu => by obtain ⟨y, _, rfl⟩ := List.mem_map.1 hu; rfl) (by unfold maxLen; omega) (by omega) hbase ?_
    · intro j u hj
      rw [List.getElem?_map] at hj
      cases hy : l[j]? with
      | none => rw [hy] at hj; cases hj
      | some y =>
        rw [hy] at hj
        cases hj
        have hjl : j < l.length := (List.getElem?_eq_some_iff.1 hy).1
        have hl := hb.1
        obtain ⟨b, off, hx', hc⟩ := hb.2 (by omega)
        obtain rfl := Option.some.inj hx'
        rw [Addr.add_lit]
        exact hc j y hy
    · intro v' w' h1 h2 _
      obtain ⟨ad', c', rfl, hc', hc2⟩ := srow_shape h1
      exact hK ad' c' w' hc' hc2 (by rw [List.map_append]; exact h1) ((Below.refl base wr).grown h2 hbase (fun k hk => (hown.lt k hk).1))

/-- a row of texts made, with room -/
theorem wpList_make_strs (w : World) {ops : Array Oper} {rest : List Oper} {o : Oper} {a : Act} {Q : Exit → Act → World → Prop}
    (hg : o.guard = none) (l c : Operand) (hop : o.op = Op.makeSlice 29 l c) (kl kc : IntKind) (m : Nat) (C : Int) (hl : a.eval l = .int kl 0) (hc : a.eval c = .int kc C) (hC : C = (m : Int)) (b2 : m ≤ 1000000)
    (hK : ∀ w1, w1.ownsRow w.heap.size 9 1 (.slice (some ⟨w.heap.size, 0, none⟩) 0 m) 0 [] → Below w.heap.size w w1 → wpList Tryd.prog ops Q rest (a.put o.dst (.slice (some ⟨w.heap.size, 0, none⟩) 0 m)) w1) :
    wpList Tryd.prog ops Q (o :: rest) a w := by
  obtain ⟨i0, hi, hz0, hz1, hz2⟩ := info_parts infoString
  refine wpList_plain hg fun K hK' => ?_
  have hrun := run_make (P := Tryd.prog) w 29 9 i0 (.string ⟨#[]⟩) Tryd.underlying29 hi hz0 kl kc 0 C (by omega) (by omega) (by rw [hz2]; omega) (by omega)
  subst hC
  simp only [hz1, Nat.mul_one, Int.toNat_natCast] at hrun
  unfold Oper.wp
  simp [execOp, hop, hl, hc, hrun, Result.andThen]
  refine hK' _ _ (hK _ ?_ ((Below.refl _ _).alloc (Nat.le_refl _) _))
  exact World.ownsRow_made w _ m (Nat.le_refl _) (by unfold maxLen; omega) (by rw [size_madeCells]; omega)
end Go.Proofs.YtadmpobnpnbgoaaDoor
