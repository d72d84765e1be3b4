/- A commit that came in, opened, with what may be said of its fields. -/
import Derived.Test.YtdibdcbihleflabOCommit
import Derived.Test.YtdibdcbihleflabOArg2
namespace Go.Proofs.Ytdibdcbihleflab
open Go.ChangeShapes Go.WideShapes Go.ChangeAt Go.RowKit

theorem ids_cell3 {H : Type} {enc : TypeId × Value → H} {W : World} {fuel : Nat} {v : Value} {x : DataW H × List MemPlace} (hf : DataW.trod enc Try.prog W 0 (fun _ => true) true fuel 26 [v] = some x) :
    ∃ a n cap l, v = .slice a n cap ∧ Ids W a n l ∧ (∀ x ∈ l, 0 ≤ x ∧ x < 18446744073709551616) ∧ n ≤ cap ∧ n ≤ 9223372036854775807 ∧ (a = none → n = 0 ∧ cap = 0) := by
  rcases open_ints Try.underlying26 Try.underlying25 (by kernel_rfl) hf with ⟨hcs, _⟩ | ⟨x, n, cap, zs, hcs, _, hl, hm, hz, hx, hcell, hwz⟩
  · simp only [List.cons.injEq, and_true] at hcs
    subst hcs
    exact ⟨none, 0, 0, [], rfl, ⟨rfl, fun h0 => by omega⟩, fun x hx => (by simp at hx), Nat.le_refl _, by omega, fun _ => ⟨rfl, rfl⟩⟩
  · simp only [List.cons.injEq, and_true] at hcs
    subst hcs
    simp only [if_true] at hz
    refine ⟨some x, n, cap, zs.take n, rfl, ⟨by rw [List.length_take]; omega, fun h0 => ?_⟩, fun x hx => ?_, hl, by unfold maxLen at hm; omega, fun h => by cases h⟩
    · obtain ⟨b, off, spot⟩ := x
      have hc := hcell 0 (by omega)
      have hspot : spot = none := by simpa [Addr.add] using World.cell?_spot hc
      subst hspot
      refine ⟨b, off, rfl, fun i x hx => ?_⟩
      have hi : i < n := by have := (List.getElem?_eq_some_iff.1 hx).1; rw [List.length_take] at this; omega
      have hci := hcell i (by omega)
      rw [Addr.add_lit] at hci
      rw [hci]
      rw [List.getElem?_take_of_lt hi] at hx
      rw [List.getD_eq_getElem?_getD, hx]; rfl
    · have := bounds_u64 (hwz x (List.mem_of_mem_take hx))
      omega

set_option maxRecDepth 100000 in
theorem commit_arg3 {H : Type} {enc : TypeId × Value → H} {W : World} {base : Nat} {v : Value} {d : DataW H} {ps : List MemPlace} (hok : Value.okWide Try.prog W .any base 28 v)
    (h : DataW.Trod enc Try.prog W 0 (fun _ => true) true 28 v d ps) :
    ∃ t pa pn pc l au dd tx, v = cmt t pa pn pc au dd tx ∧ Com W t pa pn pc l au dd tx := by
  obtain ⟨t, pa, pn, pc, au, dd, tx, rfl⟩ := commit_arg hok h
  obtain ⟨fuel, hf⟩ := h
  obtain ⟨xs, fu, _, _, _, hxl, hfl⟩ := DataW.trod_struct Try.underlying28 hf
  have e0 : Try.prog.cellsOf 25 = 1 := by kernel_rfl
  have e1 : Try.prog.cellsOf 26 = 1 := by kernel_rfl
  have e2 : Try.prog.cellsOf 9 = 1 := by kernel_rfl
  have e3 : Try.prog.cellsOf 2 = 1 := by kernel_rfl
  match xs, hxl with
  | [y0, y1, y2, y3, y4], _ =>
    have f0 : DataW.trod enc Try.prog W 0 (fun _ => true) true fu 25 [.int .u64 t] = some y0 := by simpa [e0, Value.cells] using hfl 0 _ rfl
    have f1 : DataW.trod enc Try.prog W 0 (fun _ => true) true fu 26 [.slice pa pn pc] = some y1 := by simpa [e1, Value.cells] using hfl 1 _ rfl
    have f2 : DataW.trod enc Try.prog W 0 (fun _ => true) true fu 9 [.string au] = some y2 := by simpa [e2, Value.cells] using hfl 2 _ rfl
    have f3 : DataW.trod enc Try.prog W 0 (fun _ => true) true fu 2 [.int .i64 dd] = some y3 := by simpa [e3, Value.cells] using hfl 3 _ rfl
    have f4 : DataW.trod enc Try.prog W 0 (fun _ => true) true fu 9 [.string tx] = some y4 := by simpa [e2, Value.cells] using hfl 4 _ rfl
    obtain ⟨k0, c0, _, w0⟩ := DataW.trod_int Try.underlying25 f0
    obtain ⟨s2, c2, _, w2⟩ := DataW.trod_string Try.underlying9 f2
    obtain ⟨k3, c3, _, w3⟩ := DataW.trod_int Try.underlying2 f3
    obtain ⟨s4, c4, _, w4⟩ := DataW.trod_string Try.underlying9 f4
    cases c0
    cases c2
    cases c3
    cases c4
    obtain ⟨a', n', c', l, e, hI, hb, h1, h2, h3⟩ := ids_cell3 f1
    cases e
    have b0 := bounds_u64 w0
    have b3 := bounds_i64 w3
    exact ⟨t, pa, pn, pc, l, au, dd, tx, rfl, by omega, hI, hb, ⟨h1, h2, h3⟩, w2, by omega, w4⟩
end Go.Proofs.Ytdibdcbihleflab
