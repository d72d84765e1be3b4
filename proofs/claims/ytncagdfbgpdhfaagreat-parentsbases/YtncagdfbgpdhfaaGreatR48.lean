import Derived.Test.YtncagdfbgpdhfaaGreatR34
/- A map of ints to ints of a call's own. -/
namespace Go.Proofs.YtncagdfbgpdhfaaGreat
open Go.RowKit Go.Maps

theorem keyedN : Keyed Tryz.prog 3 := int_keyed Tryz.underlying3
theorem zeroInt64 (w : World) : (zeroValue 3).run Tryz.prog w = .ok (.int .i64 0) w := by kernel_rfl
theorem key_neN {i i' : Int} (h : i' ≠ i) : (Lit.int .i64 i' : Lit) ≠ .int .i64 i := fun e => h (by cases e; rfl)
theorem ownsMap_tightN {w : World} {b n : Nat} {M : DataW Value} (h : w.ownsMap Tryz.prog 3 rvO b n M) : w.ownsMap Tryz.prog 3 rvO b (size M) M := by
  obtain ⟨es, clock, h1, h2, h3, rfl⟩ := h
  exact ⟨es, clock, h1, h2, by simp [size, length_sorted], rfl⟩
/-- block b is a map of ints to ints -/
def IkAt (w : World) (b : Nat) (f : Int → Int) (k : Nat) : Prop := ∃ M : DataW Value, w.ownsMap Tryz.prog 3 rvO b (size M) M ∧ size M ≤ k ∧ ∀ i, M.atKey (.int .i64 i) (.held (.int .i64 0)) = .held (.int .i64 (f i))
theorem IkAt.look {w : World} {b : Nat} {f : Int → Int} {k : Nat} (h : IkAt w b f k) (i : Int) (hi : (Lit.int .i64 i).wf = true) : (Instr.lookup 59 (.map (some b)) (.int .i64 i) false).run Tryz.prog w = .ok (.int .i64 (f i)) w := by
  obtain ⟨M, h2, h3, h4⟩ := h
  obtain ⟨u', ps, hrun, hu'⟩ := h2.lookup keyedN Tryz.underlying59 (zeroInt64 w) (show rvO (.int .i64 0) = some (.held (.int .i64 0), []) from rfl) (keyOf_int_mk Tryz.underlying3 hi)
  rw [h4] at hu'
  simp only [rvO, Option.some.injEq, Prod.mk.injEq] at hu'
  obtain ⟨e, _⟩ := hu'
  cases e
  exact hrun
theorem IkAt.put {w : World} {b : Nat} {f : Int → Int} {k : Nat} (h : IkAt w b f k) (i : Int) (hi : (Lit.int .i64 i).wf = true) (hk : k < maxLen) (v : Int) : ∃ w2, (Instr.mapUpdate 59 (.map (some b)) (.int .i64 i) (.int .i64 v)).run Tryz.prog w = .ok () w2 ∧ IkAt w2 b (setG f i v) (k + 1) ∧ w.grownBy w2 (some b) := by
  obtain ⟨M, h2, h3, h4⟩ := h
  obtain ⟨w2, hrun, own2, hg2⟩ := h2.update keyedN Tryz.underlying59 (by omega) (keyOf_int_mk Tryz.underlying3 hi) (show rvO (.int .i64 v) = some (.held (.int .i64 v), []) from rfl)
  have hm := h2.isMap
  have htidy := h2.tidy keyedN
  refine ⟨w2, hrun, ⟨_, ownsMap_tightN own2, ?_, fun l => ?_⟩, hg2⟩
  · rw [size_put htidy]
    split <;> omega
  · by_cases e : l = i
    · subst e
      rw [atKey_put_same hm (show WideAt.IsKeyLit (.int .i64 l) from trivial)]
      simp [setG]
    · rw [atKey_put_other (key_neN e), h4]
      simp [setG, e]
theorem IkAt.new (w : World) : IkAt (w.alloc (.map #[] 0)) w.heap.size (fun _ => 0) 0 := ⟨.map [], World.ownsMap_made w Tryz.prog 3 rvO, Nat.le_refl _, fun _ => rfl⟩
/-- the law's map: what a relation is from the other side -/
def turn5 : Int → Int := setG (setG (setG (setG (setG (fun _ => 0) 1 1) 2 3) 3 2) 4 4) 5 5
theorem lit_turn5 (w : World) : ∃ u1 u2 u3 u4 u5, (Instr.mapUpdate 59 (.map (some w.heap.size)) (.int .i64 1) (.int .i64 1)).run Tryz.prog (w.alloc (.map #[] 0)) = .ok () u1 ∧ (Instr.mapUpdate 59 (.map (some w.heap.size)) (.int .i64 2) (.int .i64 3)).run Tryz.prog u1 = .ok () u2 ∧ (Instr.mapUpdate 59 (.map (some w.heap.size)) (.int .i64 3) (.int .i64 2)).run Tryz.prog u2 = .ok () u3 ∧ (Instr.mapUpdate 59 (.map (some w.heap.size)) (.int .i64 4) (.int .i64 4)).run Tryz.prog u3 = .ok () u4 ∧ (Instr.mapUpdate 59 (.map (some w.heap.size)) (.int .i64 5) (.int .i64 5)).run Tryz.prog u4 = .ok () u5 ∧ IkAt u5 w.heap.size turn5 5 ∧ Below w.heap.size w u5 := by
  have hx : (5 : Nat) < maxLen := by unfold maxLen; omega
  obtain ⟨u1, r1, k1, g1⟩ := (IkAt.new w).put 1 (by decide) (by omega) 1
  obtain ⟨u2, r2, k2, g2⟩ := k1.put 2 (by decide) (by omega) 3
  obtain ⟨u3, r3, k3, g3⟩ := k2.put 3 (by decide) (by omega) 2
  obtain ⟨u4, r4, k4, g4⟩ := k3.put 4 (by decide) (by omega) 4
  obtain ⟨u5, r5, k5, g5⟩ := k4.put 5 (by decide) (by omega) 5
  have b0 : Below w.heap.size w (w.alloc (.map #[] 0)) := (Below.refl _ w).alloc (Nat.le_refl _) _
  have st : ∀ {v v' : World}, Below w.heap.size w v → v.grownBy v' (some w.heap.size) → Below w.heap.size w v' := fun hb hg => hb.trans ((turn_grown hg).below hb.size (fun k e => by omega))
  exact ⟨u1, u2, u3, u4, u5, r1, r2, r3, r4, r5, k5, st (st (st (st (st b0 g1) g2) g3) g4) g5⟩
end Go.Proofs.YtncagdfbgpdhfaaGreat
