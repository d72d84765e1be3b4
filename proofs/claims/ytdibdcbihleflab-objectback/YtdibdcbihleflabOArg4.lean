/- Entries that came in, opened, with what may be said of their fields. -/
import Derived.Test.YtdibdcbihleflabOTree3
import Derived.Test.YtdibdcbihleflabOArg2
namespace Go.Proofs.Ytdibdcbihleflab
open Go.ChangeShapes Go.WideShapes Go.ChangeAt Go.RowKit

set_option maxRecDepth 100000 in
theorem entries_arg3 {H : Type} {enc : TypeId × Value → H} {W : World} {base : Nat} {v : Value} {d : DataW H} {ps : List MemPlace} (hok : Value.okWide Try.prog W .any base 23 v)
    (h : DataW.Trod enc Try.prog W 0 (fun _ => true) true 23 v d ps) :
    ∃ a n cap es, v = .slice a n cap ∧ Ents W a n es ∧ Fields es ∧ n ≤ cap ∧ (a = none → n = 0 ∧ cap = 0) := by
  obtain ⟨a, n, cap, rfl⟩ := okWide_slice Try.underlying23 hok
  obtain ⟨fuel, hf⟩ := h
  rcases Deep.open_slice Try.underlying23 hf with ⟨hcs, _⟩ | ⟨x, len, c, m, j, D, Pl, hcs, _, hl, hmx, hm, hx, hel⟩
  · simp [Value.cells] at hcs
    obtain ⟨rfl, rfl, rfl⟩ := hcs
    exact ⟨none, 0, 0, [], rfl, ⟨rfl, fun h0 => by omega⟩, ⟨fun j x h => by simp at h, fun j x h => by simp at h⟩, Nat.le_refl _, fun _ => ⟨rfl, rfl⟩⟩
  · simp [Value.cells] at hcs
    obtain ⟨rfl, rfl, rfl⟩ := hcs
    simp only [if_true] at hm
    have hcell : ∀ i, i < n → ∃ o : Ent, W.cell? (x.add (i * 3)) = some (.string o.1) ∧ W.cell? (x.add (i * 3 + 1)) = some (.bool o.2.1) ∧ W.cell? (x.add (i * 3 + 2)) = some (.int .u64 o.2.2) ∧ o.1.size ≤ maxLen ∧ 0 ≤ o.2.2 ∧ o.2.2 < 18446744073709551616 := by
      intro i hi
      obtain ⟨cs', hc1, hc2⟩ := hel i (by omega)
      rw [show Try.prog.cellsOf 56 = 3 from by kernel_rfl] at hc1
      obtain ⟨xs, fu, _, _, _, hxl, hfl⟩ := DataW.trod_struct Try.underlying56 hc2
      obtain ⟨_, hlen2, hget⟩ := World.cells?_some hc1
      have e9 : Try.prog.cellsOf 9 = 1 := by kernel_rfl
      have e4 : Try.prog.cellsOf 4 = 1 := by kernel_rfl
      have e39 : Try.prog.cellsOf 25 = 1 := by kernel_rfl
      match cs', hlen2, xs, hxl with
      | [z0, z1, z2], _, [y0, y1, y2], _ =>
        have f0 : DataW.trod enc Try.prog W 0 (fun _ => true) true fu 9 [z0] = some y0 := by simpa [e9] using hfl 0 _ rfl
        have f1 : DataW.trod enc Try.prog W 0 (fun _ => true) true fu 4 [z1] = some y1 := by simpa [e4] using hfl 1 _ rfl
        have f2 : DataW.trod enc Try.prog W 0 (fun _ => true) true fu 25 [z2] = some y2 := by simpa [e39] using hfl 2 _ rfl
        obtain ⟨s0, c0, _, w0⟩ := DataW.trod_string Try.underlying9 f0
        obtain ⟨b1, c1, _⟩ := DataW.trod_bool Try.underlying4 f1
        obtain ⟨k2, c2, _, w2⟩ := DataW.trod_int Try.underlying25 f2
        simp only [List.cons.injEq, and_true] at c0 c1 c2
        subst c0 c1 c2
        have g0 := hget 0 (by simp)
        have g1 := hget 1 (by simp)
        have g2 := hget 2 (by simp)
        rw [Deep.add_add] at g0 g1 g2
        have hw2 := bounds_u64 w2
        exact ⟨(s0, b1, k2), by simpa using g0, by simpa using g1, by simpa using g2, w0, hw2.1, by show k2 < _; omega⟩
    haveI : Inhabited Ent := ⟨(⟨#[]⟩, false, 0)⟩
    obtain ⟨g, hg⟩ := Deep.choose_lt hcell
    have hgy : ∀ (i : Nat) y, ((List.range n).map g)[i]? = some y → i < n ∧ y = g i := fun i y hy => by
      have hi : i < n := by have := (List.getElem?_eq_some_iff.1 hy).1; simpa using this
      rw [List.getElem?_map, List.getElem?_range hi] at hy
      exact ⟨hi, (Option.some.inj hy).symm⟩
    refine ⟨some x, n, cap, (List.range n).map g, rfl, ⟨by simp, fun h0 => ?_⟩, ⟨fun i y hy => ?_, fun i y hy => ?_⟩, hl, fun h => by cases h⟩
    rotate_left
    · obtain ⟨hi, rfl⟩ := hgy i y hy
      exact (hg i hi).2.2.2.1
    · obtain ⟨hi, rfl⟩ := hgy i y hy
      exact (hg i hi).2.2.2.2
    obtain ⟨b, off, spot⟩ := x
    have hc := (hg 0 h0).1
    have hspot : spot = none := by simpa [Addr.add] using World.cell?_spot hc
    subst hspot
    refine ⟨b, off, rfl, fun i y hy => ?_⟩
    have hi : i < n := by have := (List.getElem?_eq_some_iff.1 hy).1; simpa using this
    have ey : y = g i := by
      rw [List.getElem?_map, List.getElem?_range hi] at hy
      exact (Option.some.inj hy).symm
    subst ey
    obtain ⟨e1, e2, e3, _⟩ := hg i hi
    rw [Addr.add_lit] at e1 e2 e3
    rw [← Nat.add_assoc] at e2 e3
    exact ⟨e1, e2, e3⟩
end Go.Proofs.Ytdibdcbihleflab
