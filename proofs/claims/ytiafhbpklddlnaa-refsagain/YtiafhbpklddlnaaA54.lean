import Derived.Test.YtiafhbpklddlnaaA33
import Derived.ProofKit
import Derived.OpenShut
import Derived.ShutString
import Derived.ChangeOld
import Derived.SizedLaws
import Derived.Deep.Slices
import Derived.Test.YtiafhbpklddlnaaA53
import Derived.Test.YtiafhbpklddlnaaRows
/- A slice of refs that came in, opened. -/
namespace Go.Proofs.Ytiafhbpklddlnaa
open Go.ChangeShapes Go.WideShapes Go.ChangeAt Go.RowKit


set_option maxRecDepth 100000 in
/-- what a slice of refs in memory holds -/
theorem refs_cells {H : Type} {enc : TypeId × Value → H} {W : World} {fuel : Nat} {v : Value} {x : DataW H × List MemPlace} (hf : DataW.trod enc Try.prog W 0 (fun _ => true) true fuel 37 [v] = some x) :
    ∃ a n cap es, v = .slice a n cap ∧ Chs W a n es ∧ ShortR es ∧ (∀ x ∈ es, 0 ≤ x.2 ∧ x.2 ≤ 18446744073709551615) ∧ n ≤ cap ∧ n ≤ maxLen ∧ (a = none → n = 0 ∧ cap = 0) := by
  rcases Deep.open_slice Try.underlying37 hf with ⟨hcs, _⟩ | ⟨x, len, c, m, j, D, Pl, hcs, _, hl, hmx, hm, hx, hel⟩
  · simp only [List.cons.injEq, and_true] at hcs
    subst hcs
    exact ⟨none, 0, 0, [], rfl, ⟨rfl, fun h0 => by omega⟩, (fun j x h => by simp at h), (fun x h => by cases h), Nat.le_refl _, Nat.zero_le _, fun _ => ⟨rfl, rfl⟩⟩
  · simp only [List.cons.injEq, and_true] at hcs
    subst hcs
    simp only [if_true] at hm
    have hcell : ∀ i, i < len → ∃ o : Ch, W.cell? (x.add (i * 2)) = some (.string o.1) ∧ W.cell? (x.add (i * 2 + 1)) = some (.int .u64 o.2) ∧ o.1.size ≤ maxLen ∧ 0 ≤ o.2 ∧ o.2 ≤ 18446744073709551615 := by
      intro i hi
      obtain ⟨cs', hc1, hc2⟩ := hel i (by omega)
      rw [show Try.prog.cellsOf 31 = 2 from by kernel_rfl] at hc1
      obtain ⟨xs, fu, _, _, _, hxl, hfl⟩ := DataW.trod_struct Try.underlying31 hc2
      obtain ⟨_, hlen2, hget⟩ := World.cells?_some hc1
      have e9 : Try.prog.cellsOf 9 = 1 := by kernel_rfl
      have e39 : Try.prog.cellsOf 23 = 1 := by kernel_rfl
      match cs', hlen2, xs, hxl with
      | [z0, z2], _, [y0, y2], _ =>
        have f0 : DataW.trod enc Try.prog W 0 (fun _ => true) true fu 9 [z0] = some y0 := by simpa [e9] using hfl 0 _ rfl
        have f2 : DataW.trod enc Try.prog W 0 (fun _ => true) true fu 23 [z2] = some y2 := by simpa [e39] using hfl 1 _ rfl
        obtain ⟨s0, c0, _, w0⟩ := DataW.trod_string Try.underlying9 f0
        obtain ⟨k2, c2, _, w2⟩ := DataW.trod_int Try.underlying23 f2
        simp only [List.cons.injEq, and_true] at c0 c2
        subst c0 c2
        have g0 := hget 0 (by simp)
        have g1 := hget 1 (by simp)
        rw [Deep.add_add] at g0 g1
        have hw2 := bounds_u64 w2
        exact ⟨(s0, k2), by simpa using g0, by simpa using g1, w0, hw2.1, by show k2 ≤ _; omega⟩
    haveI : Inhabited Ch := ⟨(⟨#[]⟩, 0)⟩
    obtain ⟨g, hg⟩ := Deep.choose_lt hcell
    have hgy : ∀ (i : Nat) y, ((List.range len).map g)[i]? = some y → i < len ∧ y = g i := fun i y hy => by
      have hi : i < len := by have := (List.getElem?_eq_some_iff.1 hy).1; simpa using this
      rw [List.getElem?_map, List.getElem?_range hi] at hy
      exact ⟨hi, (Option.some.inj hy).symm⟩
    refine ⟨some x, len, c, (List.range len).map g, rfl, ⟨by simp, fun h0 => ?_⟩, fun i y hy => ?_, fun y hy => ?_, hl, by omega, fun h => by cases h⟩
    rotate_left
    · obtain ⟨hi, rfl⟩ := hgy i y hy
      exact (hg i hi).2.2.1
    · obtain ⟨i, hi⟩ := List.getElem?_of_mem hy
      obtain ⟨hi', rfl⟩ := hgy i y hi
      exact (hg i hi').2.2.2
    obtain ⟨b, off, spot⟩ := x
    have hc := (hg 0 h0).1
    have hspot : spot = none := by simpa [Addr.add] using World.cell?_spot hc
    subst hspot
    refine ⟨b, off, rfl, fun i y hy => ?_⟩
    obtain ⟨hi, rfl⟩ := hgy i y hy
    obtain ⟨e1, e2, _⟩ := hg i hi
    rw [Addr.add_lit] at e1 e2
    rw [← Nat.add_assoc] at e2
    exact ⟨e1, e2⟩
set_option maxRecDepth 100000 in
theorem refs_arg {H : Type} {enc : TypeId × Value → H} {W : World} {base : Nat} {v : Value} {d : DataW H} {ps : List MemPlace} (hok : Value.okWide Try.prog W .any base 37 v)
    (h : DataW.Trod enc Try.prog W 0 (fun _ => true) true 37 v d ps) :
    ∃ a n cap es, v = .slice a n cap ∧ Chs W a n es ∧ ShortR es ∧ (∀ x ∈ es, 0 ≤ x.2 ∧ x.2 ≤ 18446744073709551615) ∧ n ≤ cap ∧ n ≤ maxLen ∧ (a = none → n = 0 ∧ cap = 0) := by
  obtain ⟨a, n, cap, rfl⟩ := okWide_slice Try.underlying37 hok
  obtain ⟨fuel, hf⟩ := h
  exact refs_cells (v := .slice a n cap) (by simpa [Value.cells] using hf)
end Go.Proofs.Ytiafhbpklddlnaa

/- Proved here: for all lists of refs the law RefsAgain (the last change of a name counts, and setting what is there writes nothing) returns true, and its argument reads as before. No condition. -/
namespace Go.Proofs.Ytiafhbpklddlnaa
open Go.RowKit
open Go.ChangeShapes Go.WideShapes Go.ChangeAt

theorem own : ownKnob Try.prog.godebug = none := by kernel_rfl
theorem laidOut : laidOutB Try.prog = true := by kernel_rfl

set_option maxRecDepth 100000 in
theorem refsAgain_lifted (os : Os) (started : os.Started) (H : Type) (enc : TypeId × Value → H) :
    ReturnsInHanded {} Try.checked os 5 .any (Rows.refsAgainSpec.pre6 enc Try.prog Try.f5 Rows.refsAgainRow.domain false) (Rows.refsAgainSpec.post enc Try.prog Try.f5 false true false false) := by
  refine returnsInHanded_of_change_sized (C := Try.checked) own started (by kernel_rfl) Try.func5
    (ChangeSpec.witness6 (enc := enc) (C := Try.checked) false ⟨#[], #[.slice none 0 0], []⟩ 8 (by kernel_rfl) (by kernel_rfl) (by kernel_rfl) (by kernel_rfl)) ?_
  intro W base args ds gs before hval0 hW _ hsz0 _
  have hval : ∀ (j : Nat) t v, Try.f5.params[j]? = some t → args[j]? = some v → Value.okWide Try.prog W .any base t v := hval0
  have hW' := hW
  obtain ⟨p, q, hA0, hV, rfl, _, _⟩ := hW
  have hA : DataW.TrodAll enc Try.prog W 0 (fun _ => true) true Try.f5.params.toList args.toList ds p := hA0
  rw [Try.params5] at hA hval
  obtain ⟨v0, vs0, d0, ds0, p0, q0, hargs, rfl, rfl, h0, r0⟩ := trodAll_cons hA
  obtain ⟨rfl, rfl, rfl⟩ := trodAll_nil r0
  obtain rfl : args = #[v0] := by cases args; simp_all
  obtain ⟨rfl, rfl⟩ := trodVars_none hV
  have k0 := h0
  have lt0 : ∀ x ∈ p0, x.block < W.heap.size := by obtain ⟨m, hm⟩ := k0; exact DataW.trod_lt m _ _ _ hm
  obtain ⟨a, n, c, l, rfl, hb, hsh, hid, hnc, _, hnil⟩ := refs_arg (hval 0 37 v0 rfl rfl) h0
  clear hA0 hval0 hsz0
  refine (refsAgain_walk W a n c l hb hsh hid).mono fun e W' ⟨he, bel⟩ => ?_
  subst he
  exact ⟨_, rfl, _, _, _, [], _, [], hW', trodAll_mk1 (shut_bool Try.underlying4 _), (trodAll_cons_mk (Below.trod laidOut (by kernel_rfl) (of_decide_eq_true (by kernel_rfl)) h0 bel lt0) trodAll_mk0), rfl, bel.frame _, fun h => by cases h⟩

theorem refsAgain_holds : Rows.RefsAgainSaid :=
  OpenClaim.holds_of_wide 5 Try.f5 rfl rfl rfl rfl rfl rfl rfl ⟨rfl, rfl, rfl, rfl, rfl⟩ rfl rfl rfl rfl rfl (by kernel_rfl) Try.func5 (by kernel_rfl)
    (of_decide_eq_true (by kernel_rfl)) (by unfold Func.isWrapper; first | (rw [if_pos (by decide +kernel)]; kernel_rfl) | (rw [if_neg (by decide +kernel)]; exact ⟨rfl, rfl⟩))
    (fun os started H enc _ => refsAgain_lifted os started H enc)
#print axioms refsAgain_holds

end Go.Proofs.Ytiafhbpklddlnaa
