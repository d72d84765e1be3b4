import Derived.Test.YtncagdfbgpdhfaaGreatR36
import Derived.Test.YtncagdfbgpdhfaaGreatR42
import Derived.Test.YtncagdfbgpdhfaaGreatR49
import Derived.Test.YtncagdfbgpdhfaaGreatRows
import Derived.ProofKit
import Derived.OpenShut
import Derived.ShutString
import Derived.ChangeOld
import Derived.SizedLaws
/- The commits of the laws of layer 12 that came in, opened. -/
namespace Go.Proofs.YtncagdfbgpdhfaaGreat
open Go.ChangeShapes Go.WideShapes Go.ChangeAt Go.RowKit

set_option maxRecDepth 100000 in
theorem borns12_arg {H : Type} {enc : TypeId × Value → H} {W : World} {base : Nat} {v : Value} {d : DataW H} {ps : List MemPlace} (hok : Value.okWide Tryz.prog W .any base 22 v)
    (h : DataW.Trod enc Tryz.prog W 0 (fun _ => true) true 22 v d ps) :
    ∃ a n cap l, v = .slice a n cap ∧ Brs12 W a n l ∧ n ≤ 9223372036854775807 := by
  obtain ⟨a, n, cap, rfl⟩ := okWide_slice Tryz.underlying22 hok
  obtain ⟨fuel, hf⟩ := h
  rcases Deep.open_slice Tryz.underlying22 hf with ⟨hcs, _⟩ | ⟨x, len, c, m, j, D, Pl, hcs, _, hl, hmx, hm, hx, hel⟩
  · simp [Value.cells] at hcs
    obtain ⟨rfl, rfl, rfl⟩ := hcs
    exact ⟨none, 0, 0, [], rfl, ⟨rfl, fun h0 => by omega⟩, by omega⟩
  · simp [Value.cells] at hcs
    obtain ⟨rfl, rfl, rfl⟩ := hcs
    simp only [if_true] at hm
    have hcell : ∀ i, i < n → ∃ o : BornD, ∃ ba bn bc, W.cell? (x.add (i * 4)) = some (.slice ba bn bc) ∧ W.cell? (x.add (i * 4 + 1)) = some (.int .i64 o.date) ∧ W.cell? (x.add (i * 4 + 2)) = some (.bool o.blob) ∧ W.cell? (x.add (i * 4 + 3)) = some (.bool o.lost) ∧ Ints W ba bn o.back ∧ bn ≤ 9223372036854775807 ∧ -9223372036854775808 ≤ o.date ∧ o.date ≤ 9223372036854775807 := by
      intro i hi
      obtain ⟨cs', hc1, hc2⟩ := hel i (by omega)
      rw [show Tryz.prog.cellsOf 71 = 4 from by kernel_rfl] at hc1
      obtain ⟨xs, fu, _, _, _, hxl, hfl⟩ := DataW.trod_struct Tryz.underlying71 hc2
      obtain ⟨_, hlen2, hget⟩ := World.cells?_some hc1
      have e0 : Tryz.prog.cellsOf 23 = 1 := by kernel_rfl
      have e1 : Tryz.prog.cellsOf 2 = 1 := by kernel_rfl
      have e4 : Tryz.prog.cellsOf 4 = 1 := by kernel_rfl
      match cs', hlen2, xs, hxl with
      | [z0, z1, z2, z3], _, [y0, y1, y2, y3], _ =>
        have f0 : DataW.trod enc Tryz.prog W 0 (fun _ => true) true fu 23 [z0] = some y0 := by simpa [e0] using hfl 0 _ rfl
        have f1 : DataW.trod enc Tryz.prog W 0 (fun _ => true) true fu 2 [z1] = some y1 := by simpa [e1] using hfl 1 _ rfl
        have f2 : DataW.trod enc Tryz.prog W 0 (fun _ => true) true fu 4 [z2] = some y2 := by simpa [e4] using hfl 2 _ rfl
        have f3 : DataW.trod enc Tryz.prog W 0 (fun _ => true) true fu 4 [z3] = some y3 := by simpa [e4] using hfl 3 _ rfl
        obtain ⟨k1, c1, _, w1⟩ := DataW.trod_int Tryz.underlying2 f1
        obtain ⟨b2, c2, _⟩ := DataW.trod_bool Tryz.underlying4 f2
        obtain ⟨b3, c3, _⟩ := DataW.trod_bool Tryz.underlying4 f3
        simp only [List.cons.injEq, and_true] at c1 c2 c3
        subst c1 c2 c3
        obtain ⟨pa, pn, pc, l, e, hI, _, _, h2, _⟩ := ints_cell f0
        subst e
        have g0 := hget 0 (by simp)
        have g1 := hget 1 (by simp)
        have g2 := hget 2 (by simp)
        have g3 := hget 3 (by simp)
        rw [Deep.add_add] at g0 g1 g2 g3
        have hw1 := bounds_i64 w1
        exact ⟨⟨l, k1, b2, b3, false⟩, pa, pn, pc, by simpa using g0, by simpa using g1, by simpa using g2, by simpa using g3, hI, h2, hw1.1, hw1.2⟩
    haveI : Inhabited BornD := ⟨⟨[], 0, false, false, false⟩⟩
    obtain ⟨g, hg⟩ := Deep.choose_lt hcell
    refine ⟨some x, n, cap, (List.range n).map g, rfl, ⟨by simp, fun h0 => ?_⟩, by unfold maxLen at hmx; omega⟩
    obtain ⟨b, off, spot⟩ := x
    obtain ⟨_, _, _, hc, _⟩ := hg 0 h0
    have hspot : spot = none := by simpa [Addr.add] using World.cell?_spot hc
    subst hspot
    refine ⟨b, off, rfl, fun i y hy => ?_⟩
    have hi : i < n := by have := (List.getElem?_eq_some_iff.1 hy).1; simpa using this
    have ey : y = g i := by
      rw [List.getElem?_map, List.getElem?_range hi] at hy
      exact (Option.some.inj hy).symm
    subst ey
    obtain ⟨ba, bn, bc, e1, e2, e3, e4, hr⟩ := hg i hi
    rw [Addr.add_lit] at e1 e2 e3 e4
    rw [← Nat.add_assoc] at e2 e3 e4
    exact ⟨ba, bn, bc, e1, e2, e3, e4, hr⟩
end Go.Proofs.YtncagdfbgpdhfaaGreat

/- Proved here: for every list of commits and every two numbers the law ParentsBases returns true. No condition. -/
namespace Go.Proofs.YtncagdfbgpdhfaaGreat
open Go.RowKit
open Go.ChangeShapes Go.WideShapes Go.ChangeAt

theorem own : ownKnob Tryz.prog.godebug = none := by kernel_rfl
theorem laidOut : laidOutB Tryz.prog = true := by kernel_rfl

set_option maxRecDepth 100000 in
theorem parentsBases_lifted (os : Os) (started : os.Started) (H : Type) (enc : TypeId × Value → H) :
    ReturnsInHanded {} Tryz.checked os 7 .any (Rows.parentsBasesSpec.pre6 enc Tryz.prog Tryz.f7 Rows.parentsBasesRow.domain false) (Rows.parentsBasesSpec.post enc Tryz.prog Tryz.f7 false true false false) := by
  refine returnsInHanded_of_change_sized (C := Tryz.checked) own started (by kernel_rfl) Tryz.func7
    (ChangeSpec.witness6 (enc := enc) (C := Tryz.checked) false ⟨#[], #[.slice none 0 0, .int .i64 0, .int .i64 0], []⟩ 8 (by kernel_rfl) (by kernel_rfl) (by kernel_rfl) (by kernel_rfl)) ?_
  intro W base args ds gs before hval0 hW _ hsz0 _
  have hval : ∀ (j : Nat) t v, Tryz.f7.params[j]? = some t → args[j]? = some v → Value.okWide Tryz.prog W .any base t v := hval0
  have hW' := hW
  obtain ⟨p, q, hA0, hV, rfl, _, _⟩ := hW
  have hA : DataW.TrodAll enc Tryz.prog W 0 (fun _ => true) true Tryz.f7.params.toList args.toList ds p := hA0
  rw [Tryz.params7] at hA hval
  obtain ⟨v0, vs0, d0, ds0, p0, q0, hargs, rfl, rfl, h0, r0⟩ := trodAll_cons hA
  obtain ⟨v1, vs1, d1, ds1, p1, q1, rfl, rfl, rfl, h1, r1⟩ := trodAll_cons r0
  obtain ⟨v2, vs2, d2, ds2, p2, q2, rfl, rfl, rfl, h2, r2⟩ := trodAll_cons r1
  obtain ⟨rfl, rfl, rfl⟩ := trodAll_nil r2
  obtain rfl : args = #[v0, v1, v2] := by cases args; simp_all
  obtain ⟨rfl, rfl⟩ := trodVars_none hV
  have k0 := h0
  have lt0 : ∀ x ∈ p0, x.block < W.heap.size := by obtain ⟨m, hm⟩ := k0; exact DataW.trod_lt m _ _ _ hm
  obtain ⟨a0, n0, cap0, l0, rfl, hl0, hn0⟩ := borns12_arg (hval 0 22 v0 rfl rfl) h0
  obtain ⟨x1, rfl, rfl, rfl, w1⟩ := open_int Tryz.underlying3 (hval 1 3 v1 rfl rfl) h1
  obtain ⟨x2, rfl, rfl, rfl, w2⟩ := open_int Tryz.underlying3 (hval 2 3 v2 rfl rfl) h2
  have hb1 := bounds_i64 w1
  have hb2 := bounds_i64 w2
  clear hA0 hval0 hsz0
  refine (parentsBases_walk W a0 n0 cap0 l0 hl0 hn0 x1 x2 (by omega) (by omega)).mono fun e W' ⟨he, bel⟩ => ?_
  subst he
  exact ⟨_, rfl, _, _, _, [], _, [], hW', trodAll_mk1 (shut_bool Tryz.underlying4 _), trodAll_cons_mk (Below.trod laidOut (by kernel_rfl) (of_decide_eq_true (by kernel_rfl)) k0 bel lt0) (trodAll_cons_mk (shut_int Tryz.underlying3 w1) (trodAll_cons_mk (shut_int Tryz.underlying3 w2) trodAll_mk0)), rfl, bel.frame _, fun h => by cases h⟩

theorem parentsBases_holds : Rows.ParentsBasesSaid :=
  OpenClaim.holds_of_wide 7 Tryz.f7 rfl rfl rfl rfl rfl rfl rfl ⟨rfl, rfl, rfl, rfl, rfl⟩ rfl rfl rfl rfl rfl (by kernel_rfl) Tryz.func7 (by kernel_rfl)
    (of_decide_eq_true (by kernel_rfl)) (by unfold Func.isWrapper; first | (rw [if_pos (by decide +kernel)]; kernel_rfl) | (rw [if_neg (by decide +kernel)]; exact ⟨rfl, rfl⟩))
    (fun os started H enc _ => parentsBases_lifted os started H enc)
#print axioms parentsBases_holds

end Go.Proofs.YtncagdfbgpdhfaaGreat
