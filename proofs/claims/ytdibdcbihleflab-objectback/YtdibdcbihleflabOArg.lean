/- A commit that came in, opened. -/
import Derived.Test.YtdibdcbihleflabBytes
import Derived.Test.YtdibdcbihleflabProg
import Derived.ProofKit
import Derived.OpenShut
import Derived.ShutString
import Derived.ChangeOld
import Derived.SizedLaws
import Derived.Deep.Slices
namespace Go.Proofs.Ytdibdcbihleflab
open Go.ChangeShapes Go.WideShapes Go.ChangeAt Go.RowKit

set_option maxRecDepth 100000 in
theorem commit_arg {H : Type} {enc : TypeId × Value → H} {W : World} {base : Nat} {v : Value} {d : DataW H} {ps : List MemPlace} (hok : Value.okWide Try.prog W .any base 28 v)
    (h : DataW.Trod enc Try.prog W 0 (fun _ => true) true 28 v d ps) :
    ∃ t pa pn pc au dd tx, v = .agg #[.int .u64 t, .slice pa pn pc, .string au, .int .i64 dd, .string tx] := by
  obtain ⟨cs, rfl, hsz⟩ := okWide_struct Try.underlying28 hok
  rw [show Try.prog.cellsOf 28 = 5 from by kernel_rfl] at hsz
  obtain ⟨fuel, hf⟩ := h
  obtain ⟨xs, fu, _, _, _, hxl, hfl⟩ := DataW.trod_struct Try.underlying28 hf
  have e0 : Try.prog.cellsOf 25 = 1 := by kernel_rfl
  have e1 : Try.prog.cellsOf 26 = 1 := by kernel_rfl
  have e2 : Try.prog.cellsOf 9 = 1 := by kernel_rfl
  have e3 : Try.prog.cellsOf 2 = 1 := by kernel_rfl
  obtain ⟨z0, z1, z2, z3, z4, rfl⟩ : ∃ z0 z1 z2 z3 z4, cs = #[z0, z1, z2, z3, z4] := by
    obtain ⟨l⟩ := cs
    match l, hsz with
    | [a, b, c, d, e], _ => exact ⟨a, b, c, d, e, rfl⟩
  match xs, hxl with
  | [y0, y1, y2, y3, y4], _ =>
    have f0 : DataW.trod enc Try.prog W 0 (fun _ => true) true fu 25 [z0] = some y0 := by simpa [e0, Value.cells] using hfl 0 _ rfl
    have f1 : DataW.trod enc Try.prog W 0 (fun _ => true) true fu 26 [z1] = some y1 := by simpa [e1, Value.cells] using hfl 1 _ rfl
    have f2 : DataW.trod enc Try.prog W 0 (fun _ => true) true fu 9 [z2] = some y2 := by simpa [e2, Value.cells] using hfl 2 _ rfl
    have f3 : DataW.trod enc Try.prog W 0 (fun _ => true) true fu 2 [z3] = some y3 := by simpa [e3, Value.cells] using hfl 3 _ rfl
    have f4 : DataW.trod enc Try.prog W 0 (fun _ => true) true fu 9 [z4] = some y4 := by simpa [e2, Value.cells] using hfl 4 _ rfl
    obtain ⟨k0, c0, _, _⟩ := DataW.trod_int Try.underlying25 f0
    obtain ⟨s2, c2, _, _⟩ := DataW.trod_string Try.underlying9 f2
    obtain ⟨k3, c3, _, _⟩ := DataW.trod_int Try.underlying2 f3
    obtain ⟨s4, c4, _, _⟩ := DataW.trod_string Try.underlying9 f4
    have f1' : ∃ a n c, z1 = .slice a n c := by
      rcases Deep.open_slice Try.underlying26 f1 with ⟨hcs, _⟩ | ⟨x, len, c, m, j, D, Pl, hcs, _⟩
      · simp only [List.cons.injEq, and_true] at hcs; exact ⟨_, _, _, hcs⟩
      · simp only [List.cons.injEq, and_true] at hcs; exact ⟨_, _, _, hcs⟩
    obtain ⟨pa, pn, pc, rfl⟩ := f1'
    simp only [List.cons.injEq, and_true] at c0 c2 c3 c4
    subst c0 c2 c3 c4
    exact ⟨_, _, _, _, _, _, _, rfl⟩
end Go.Proofs.Ytdibdcbihleflab
