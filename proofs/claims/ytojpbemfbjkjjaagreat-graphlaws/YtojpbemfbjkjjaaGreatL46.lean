import Derived.Test.YtojpbemfbjkjjaaGreatProg
import Derived.ProofKit
import Derived.OpenShut
import Derived.ShutString
import Derived.ChangeOld
import Derived.SizedLaws
import Derived.Test.YtojpbemfbjkjjaaGreatL45
import Derived.Test.YtojpbemfbjkjjaaGreatRows
/- Lifting: an array of three ints as an argument. -/
namespace Go.Proofs.YtojpbemfbjkjjaaGreat
open Go.RowKit
open Go.ChangeShapes Go.WideShapes Go.ChangeAt

set_option maxRecDepth 20000 in
theorem arr3_arg {H : Type} {enc : TypeId × Value → H} {W : World} {base : Nat} {v : Value} {d : DataW H} {ps : List MemPlace} (hok : Value.okWide Tryz.prog W .any base 53 v)
    (hd : DataW.Trod enc Tryz.prog W 0 (fun _ => true) true 53 v d ps) : ∃ x y z : Int, v = .agg #[.int .i64 x, .int .i64 y, .int .i64 z] ∧ ∀ u ∈ [x, y, z], -9223372036854775808 ≤ u ∧ u ≤ 9223372036854775807 := by
  have hu : Tryz.prog.underlying 53 = some (.array 3 3) := Tryz.underlying53
  have hc3 : Tryz.prog.cellsOf 53 = 3 := by kernel_rfl
  have hc1 : Tryz.prog.cellsOf 3 = 1 := by kernel_rfl
  simp only [Value.okWide, hu] at hok
  obtain ⟨cs, rfl, h2, _⟩ := hok
  rw [hc3] at h2
  obtain ⟨fuel, hf⟩ := hd
  obtain ⟨xs, m, _, _, hl, hxl, hel⟩ := DataW.trod_array hu hf
  have one : ∀ i, i < 3 → ∃ x : Int, cs[i]? = some (.int .i64 x) ∧ -9223372036854775808 ≤ x ∧ x ≤ 9223372036854775807 := by
    intro i hi
    have h := hel i hi
    obtain ⟨y, hy⟩ : ∃ y, xs[i]? = some y := ⟨_, List.getElem?_eq_getElem (by omega)⟩
    rw [hy, hc1] at h
    obtain ⟨x, e1, _, e3⟩ := DataW.trod_int Tryz.underlying3 h
    refine ⟨x, ?_, bounds_i64 e3⟩
    have e4 : (((Value.agg cs).cells.toList.drop (i * 1)).take 1)[0]? = some (.int .i64 x) := by rw [e1]; rfl
    simp only [Value.cells, Nat.mul_one] at e4
    rw [List.getElem?_take_of_lt (by omega), List.getElem?_drop] at e4
    rw [← Array.getElem?_toList]
    simpa using e4
  obtain ⟨x, hx, x1⟩ := one 0 (by omega)
  obtain ⟨y, hy, y1⟩ := one 1 (by omega)
  obtain ⟨z, hz, z1⟩ := one 2 (by omega)
  refine ⟨x, y, z, ?_, ?_⟩
  · have e : cs = #[.int .i64 x, .int .i64 y, .int .i64 z] := by
      apply Array.ext_getElem?
      intro i
      match i with
      | 0 => rw [hx]; rfl
      | 1 => rw [hy]; rfl
      | 2 => rw [hz]; rfl
      | i + 3 => rw [Array.getElem?_eq_none (by omega)]; simp
    rw [e]
  · intro u hu
    simp only [List.mem_cons, List.not_mem_nil, or_false] at hu
    rcases hu with e | e | e
    · subst e; exact x1
    · subst e; exact y1
    · subst e; exact z1
end Go.Proofs.YtojpbemfbjkjjaaGreat

/- Proved here: for every list of commits and every three numbers the law GraphLaws returns true. No condition. -/
namespace Go.Proofs.YtojpbemfbjkjjaaGreat
open Go.RowKit
open Go.ChangeShapes Go.WideShapes Go.ChangeAt

theorem own : ownKnob Tryz.prog.godebug = none := by kernel_rfl
theorem laidOut : laidOutB Tryz.prog = true := by kernel_rfl

set_option maxRecDepth 100000 in
theorem graphLaws_lifted (os : Os) (started : os.Started) (H : Type) (enc : TypeId × Value → H) :
    ReturnsInHanded {} Tryz.checked os 5 .any (Rows.graphLawsSpec.pre6 enc Tryz.prog Tryz.f5 Rows.graphLawsRow.domain false) (Rows.graphLawsSpec.post enc Tryz.prog Tryz.f5 false true false false) := by
  refine returnsInHanded_of_change_sized (C := Tryz.checked) own started (by kernel_rfl) Tryz.func5
    (ChangeSpec.witness6 (enc := enc) (C := Tryz.checked) false ⟨#[], #[.slice none 0 0, .agg #[.int .i64 0, .int .i64 0, .int .i64 0]], []⟩ 8 (by kernel_rfl) (by kernel_rfl) (by kernel_rfl) (by kernel_rfl)) ?_
  intro W base args ds gs before hval0 hW _ hsz0 _
  have hval : ∀ (j : Nat) t v, Tryz.f5.params[j]? = some t → args[j]? = some v → Value.okWide Tryz.prog W .any base t v := hval0
  have hW' := hW
  obtain ⟨p, q, hA0, hV, rfl, _, _⟩ := hW
  have hA : DataW.TrodAll enc Tryz.prog W 0 (fun _ => true) true Tryz.f5.params.toList args.toList ds p := hA0
  rw [Tryz.params5] at hA hval
  obtain ⟨v0, vs0, d0, ds0, p0, q0, hargs, rfl, rfl, h0, r0⟩ := trodAll_cons hA
  obtain ⟨v1, vs1, d1, ds1, p1, q1, rfl, rfl, rfl, h1, r1⟩ := trodAll_cons r0
  obtain ⟨rfl, rfl, rfl⟩ := trodAll_nil r1
  obtain rfl : args = #[v0, v1] := by cases args; simp_all
  obtain ⟨rfl, rfl⟩ := trodVars_none hV
  have k0 := h0
  have k1 := h1
  have lt0 : ∀ x ∈ p0, x.block < W.heap.size := by obtain ⟨m, hm⟩ := k0; exact DataW.trod_lt m _ _ _ hm
  have lt1 : ∀ x ∈ p1, x.block < W.heap.size := by obtain ⟨m, hm⟩ := k1; exact DataW.trod_lt m _ _ _ hm
  obtain ⟨a0, n0, cap0, l0, rfl, hl0, hn0⟩ := borns_arg (hval 0 22 v0 rfl rfl) h0
  obtain ⟨x1, y1, z1, rfl, hx1⟩ := arr3_arg (hval 1 53 v1 rfl rfl) h1
  clear hA0 hval0 hsz0
  refine (graphLaws_walk W a0 n0 cap0 l0 hl0 hn0 x1 y1 z1 hx1).mono fun e W' ⟨he, bel⟩ => ?_
  subst he
  exact ⟨_, rfl, _, _, _, [], _, [], hW', trodAll_mk1 (shut_bool Tryz.underlying4 _), trodAll_cons_mk (Below.trod laidOut (by kernel_rfl) (of_decide_eq_true (by kernel_rfl)) k0 bel lt0) (trodAll_cons_mk (Below.trod laidOut (by kernel_rfl) (of_decide_eq_true (by kernel_rfl)) k1 bel lt1) trodAll_mk0), rfl, bel.frame _, fun h => by cases h⟩

theorem graphLaws_holds : Rows.GraphLawsSaid :=
  OpenClaim.holds_of_wide 5 Tryz.f5 rfl rfl rfl rfl rfl rfl rfl ⟨rfl, rfl, rfl, rfl, rfl⟩ rfl rfl rfl rfl rfl (by kernel_rfl) Tryz.func5 (by kernel_rfl)
    (of_decide_eq_true (by kernel_rfl)) (by unfold Func.isWrapper; first | (rw [if_pos (by decide +kernel)]; kernel_rfl) | (rw [if_neg (by decide +kernel)]; exact ⟨rfl, rfl⟩))
    (fun os started H enc _ => graphLaws_lifted os started H enc)
#print axioms graphLaws_holds

end Go.Proofs.YtojpbemfbjkjjaaGreat
