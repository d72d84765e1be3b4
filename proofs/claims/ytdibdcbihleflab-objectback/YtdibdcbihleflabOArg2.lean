/- Entries and a commit that came in, opened with what they hold. -/
import Derived.Test.YtdibdcbihleflabOArg
import Derived.Test.YtdibdcbihleflabOSame
namespace Go.Proofs.Ytdibdcbihleflab
open Go.ChangeShapes Go.WideShapes Go.ChangeAt Go.RowKit

theorem ids_cell {H : Type} {enc : TypeId × Value → H} {W : World} {fuel : Nat} {v : Value} {x : DataW H × List MemPlace} (hf : DataW.trod enc Try.prog W 0 (fun _ => true) true fuel 26 [v] = some x) :
    ∃ a n cap l, v = .slice a n cap ∧ Ids W a n l ∧ n ≤ 9223372036854775807 := by
  rcases open_ints Try.underlying26 Try.underlying25 (by kernel_rfl) hf with ⟨hcs, _⟩ | ⟨x, n, cap, zs, hcs, _, hl, hm, hz, hx, hcell, hwz⟩
  · simp only [List.cons.injEq, and_true] at hcs
    subst hcs
    exact ⟨none, 0, 0, [], rfl, ⟨rfl, fun h0 => by omega⟩, by omega⟩
  · simp only [List.cons.injEq, and_true] at hcs
    subst hcs
    simp only [if_true] at hz
    refine ⟨some x, n, cap, zs.take n, rfl, ⟨by rw [List.length_take]; omega, fun h0 => ?_⟩, by unfold maxLen at hm; omega⟩
    obtain ⟨b, off, spot⟩ := x
    have hc := hcell 0 (by omega)
    have hspot : spot = none := by simpa [Addr.add] using World.cell?_spot hc
    subst hspot
    refine ⟨b, off, rfl, fun i x hx => ?_⟩
    have hi : i < n := by have := (List.getElem?_eq_some_iff.1 hx).1; rw [List.length_take] at this; omega
    have hci := hcell i (by omega)
    rw [Addr.add_lit] at hci
    rw [hci]
    rw [List.getElem?_take_of_lt hi] at hx
    rw [List.getD_eq_getElem?_getD, hx]; rfl

set_option maxRecDepth 100000 in
theorem commit_arg2 {H : Type} {enc : TypeId × Value → H} {W : World} {base : Nat} {v : Value} {d : DataW H} {ps : List MemPlace} (hok : Value.okWide Try.prog W .any base 28 v)
    (h : DataW.Trod enc Try.prog W 0 (fun _ => true) true 28 v d ps) :
    ∃ t pa pn pc l au dd tx, v = cmt t pa pn pc au dd tx ∧ Ids W pa pn l ∧ pn ≤ 9223372036854775807 := by
  obtain ⟨t, pa, pn, pc, au, dd, tx, rfl⟩ := commit_arg hok h
  obtain ⟨fuel, hf⟩ := h
  obtain ⟨xs, fu, _, _, _, hxl, hfl⟩ := DataW.trod_struct Try.underlying28 hf
  have e1 : Try.prog.cellsOf 26 = 1 := by kernel_rfl
  match xs, hxl with
  | [y0, y1, y2, y3, y4], _ =>
    have f1 : DataW.trod enc Try.prog W 0 (fun _ => true) true fu 26 [.slice pa pn pc] = some y1 := by simpa [e1, Value.cells] using hfl 1 _ rfl
    obtain ⟨a', n', c', l, e, hI, hn⟩ := ids_cell f1
    cases e
    exact ⟨t, pa, pn, pc, l, au, dd, tx, rfl, hI, hn⟩

set_option maxRecDepth 100000 in
theorem entries_arg {H : Type} {enc : TypeId × Value → H} {W : World} {base : Nat} {v : Value} {d : DataW H} {ps : List MemPlace} (hok : Value.okWide Try.prog W .any base 23 v)
    (h : DataW.Trod enc Try.prog W 0 (fun _ => true) true 23 v d ps) :
    ∃ a n cap es, v = .slice a n cap ∧ Ents W a n es ∧ n ≤ 9223372036854775807 := by
  obtain ⟨a, n, cap, rfl⟩ := okWide_slice Try.underlying23 hok
  obtain ⟨fuel, hf⟩ := h
  rcases Deep.open_slice Try.underlying23 hf with ⟨hcs, _⟩ | ⟨x, len, c, m, j, D, Pl, hcs, _, hl, hmx, hm, hx, hel⟩
  · simp [Value.cells] at hcs
    obtain ⟨rfl, rfl, rfl⟩ := hcs
    exact ⟨none, 0, 0, [], rfl, ⟨rfl, fun h0 => by omega⟩, by omega⟩
  · simp [Value.cells] at hcs
    obtain ⟨rfl, rfl, rfl⟩ := hcs
    simp only [if_true] at hm
    have hcell : ∀ i, i < n → ∃ o : Ent, W.cell? (x.add (i * 3)) = some (.string o.1) ∧ W.cell? (x.add (i * 3 + 1)) = some (.bool o.2.1) ∧ W.cell? (x.add (i * 3 + 2)) = some (.int .u64 o.2.2) := by
      intro i hi
      obtain ⟨cs', hc1, hc2⟩ := hel i (by omega)
      rw [show Try.prog.cellsOf 56 = 3 from by kernel_rfl] at hc1
      obtain ⟨xs, fu, _, _, _, hxl, hfl⟩ := DataW.trod_struct Try.underlying56 hc2
      obtain ⟨_, hlen2, hget⟩ := World.cells?_some hc1
      have e9 : Try.prog.cellsOf 9 = 1 := by kernel_rfl
      have e4 : Try.prog.cellsOf 4 = 1 := by kernel_rfl
      have e39 : Try.prog.cellsOf 25 = 1 := by kernel_rfl
      match cs', hlen2, xs, hxl with
      | [z0, z1, z2], _, [y0, y1, y2], _ =>
        have f0 : DataW.trod enc Try.prog W 0 (fun _ => true) true fu 9 [z0] = some y0 := by simpa [e9] using hfl 0 _ rfl
        have f1 : DataW.trod enc Try.prog W 0 (fun _ => true) true fu 4 [z1] = some y1 := by simpa [e4] using hfl 1 _ rfl
        have f2 : DataW.trod enc Try.prog W 0 (fun _ => true) true fu 25 [z2] = some y2 := by simpa [e39] using hfl 2 _ rfl
        obtain ⟨s0, c0, _, _⟩ := DataW.trod_string Try.underlying9 f0
        obtain ⟨b1, c1, _⟩ := DataW.trod_bool Try.underlying4 f1
        obtain ⟨k2, c2, _, _⟩ := DataW.trod_int Try.underlying25 f2
        simp only [List.cons.injEq, and_true] at c0 c1 c2
        subst c0 c1 c2
        have g0 := hget 0 (by simp)
        have g1 := hget 1 (by simp)
        have g2 := hget 2 (by simp)
        rw [Deep.add_add] at g0 g1 g2
        exact ⟨(s0, b1, k2), by simpa using g0, by simpa using g1, by simpa using g2⟩
    haveI : Inhabited Ent := ⟨(⟨#[]⟩, false, 0)⟩
    obtain ⟨g, hg⟩ := Deep.choose_lt hcell
    refine ⟨some x, n, cap, (List.range n).map g, rfl, ⟨by simp, fun h0 => ?_⟩, by unfold maxLen at hmx; omega⟩
    obtain ⟨b, off, spot⟩ := x
    have hc := (hg 0 h0).1
    have hspot : spot = none := by simpa [Addr.add] using World.cell?_spot hc
    subst hspot
    refine ⟨b, off, rfl, fun i y hy => ?_⟩
    have hi : i < n := by have := (List.getElem?_eq_some_iff.1 hy).1; simpa using this
    have ey : y = g i := by
      rw [List.getElem?_map, List.getElem?_range hi] at hy
      exact (Option.some.inj hy).symm
    subst ey
    have := hg i hi
    rw [Addr.add_lit, Addr.add_lit, Addr.add_lit, ← Nat.add_assoc, ← Nat.add_assoc] at this
    exact this
end Go.Proofs.Ytdibdcbihleflab
