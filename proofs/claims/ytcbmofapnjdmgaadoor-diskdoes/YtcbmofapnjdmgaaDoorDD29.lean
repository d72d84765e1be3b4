import Derived.Test.YtcbmofapnjdmgaaDoorDD28
import Derived.Deep.Slices
/- A script of operations that came in, opened: what they are, and that no bytes take more than a machine reaches. -/
namespace Go.Proofs.YtcbmofapnjdmgaaDoor
open Go.ChangeShapes Go.WideShapes Go.ChangeAt Go.RowKit Go.Maps

theorem weightsAll_mem {H : Type} {P : Program} {e : TypeId} : ∀ {l : List (DataW H)} {d : DataW H}, d ∈ l → ∀ q ∈ d.weights P e, q ∈ DataW.weightsAll P e l
  | d0 :: r, d, hd, q, hq => by
    simp only [DataW.weightsAll, List.mem_append]
    rcases List.mem_cons.1 hd with rfl | h
    · exact .inl hq
    · exact .inr (weightsAll_mem h q hq)
/-- no slice that came in takes more than a machine reaches -/
theorem slice_room {H : Type} {enc : TypeId × Value → H} {W : World} {t e : TypeId} (ht : Tryd.prog.underlying t = some (.slice e)) {fuel : Nat} {a : Option Addr} {n cap : Nat} {x0 : DataW H × List MemPlace} (hf : DataW.trod enc Tryd.prog W 0 (fun _ => true) true fuel t [.slice a n cap] = some x0) (hw : ∀ q ∈ x0.1.weights Tryd.prog t, q ≤ reachBytes) : n * Tryd.prog.bytesOf e ≤ 140737488351232 := by
  rcases Deep.open_slice ht hf with ⟨hcs, _⟩ | ⟨x, n', cap', m, j, D, Pl, hcs, _, hl, hmx, hm, hx, hel⟩
  · simp only [List.cons.injEq, and_true, Value.slice.injEq] at hcs
    rw [hcs.2.1]; omega
  · simp only [List.cons.injEq, and_true, Value.slice.injEq] at hcs
    obtain ⟨_, rfl, rfl⟩ := hcs
    have hd : x0.1 = .slice ((List.range n).map D) ((List.range (m - n)).map fun j => D (n + j)) := congrArg Prod.fst hx
    have := hw ((((List.range n).map D).length + ((List.range (m - n)).map fun j => D (n + j)).length) * Tryd.prog.bytesOf e) (by
      rw [hd]
      simp only [DataW.weights, ht]
      exact List.mem_cons_self)
    have hr : reachBytes = 140737488351232 := rfl
    rw [List.length_map, List.length_range, hr] at this
    exact Nat.le_trans (Nat.mul_le_mul (Nat.le_add_right _ _) (Nat.le_refl _)) this

theorem each_mem {H : Type} {P : Program} : ∀ {ts : List TypeId} {ds : List (DataW H)} (j : Nat) {t : TypeId} {d : DataW H}, ts[j]? = some t → ds[j]? = some d → ∀ q ∈ d.weights P t, q ∈ DataW.weightsEach P ts ds
  | t0 :: ts, d0 :: ds, 0, t, d, ht, hd, q, hq => by
    cases ht; cases hd
    simp only [DataW.weightsEach, List.mem_append]
    exact .inl hq
  | t0 :: ts, d0 :: ds, j + 1, t, d, ht, hd, q, hq => by
    simp only [DataW.weightsEach, List.mem_append]
    exact .inr (each_mem j (by simpa using ht) (by simpa using hd) q hq)
  | [], _, _, _, _, ht, _, _, _ => by simp at ht
  | _ :: _, [], _, _, _, _, hd, _, _ => by simp at hd

set_option maxRecDepth 20000 in
theorem ops2_arg {H : Type} {enc : TypeId × Value → H} {W : World} {base : Nat} {v : Value} {d : DataW H} {ps : List MemPlace} (hok : Value.okWide Tryd.prog W .any base 22 v)
    (h : DataW.Trod enc Tryd.prog W 0 (fun _ => true) true 22 v d ps) (hw : ∀ q ∈ d.weights Tryd.prog 22, q ≤ reachBytes) :
    ∃ a n cap ops, v = .slice a n cap ∧ Ops W a n ops ∧ Fits W ops ∧ n ≤ 9223372036854775807 ∧ ∀ o ∈ ops, (-9223372036854775808 ≤ o.n ∧ o.n ≤ 9223372036854775807) ∧ o.len ≤ 140737488351232 := by
  obtain ⟨a, n, cap, rfl⟩ := okWide_slice Tryd.underlying22 hok
  obtain ⟨fuel, hf⟩ := h
  rcases Deep.open_slice Tryd.underlying22 hf with ⟨hcs, _⟩ | ⟨x, len, c, m, j, D, Pl, hcs, _, hl, hmx, hm, hx, hel⟩
  · simp [Value.cells] at hcs
    obtain ⟨rfl, rfl, rfl⟩ := hcs
    exact ⟨none, 0, 0, [], rfl, ⟨rfl, fun k o ho => by simp at ho, fun o ho => by simp at ho⟩, fun o ho => by simp at ho, by omega, fun o ho => by simp at ho⟩
  · simp [Value.cells] at hcs
    obtain ⟨rfl, rfl, rfl⟩ := hcs
    simp only [if_true] at hm
    have hd : d = .slice ((List.range n).map D) ((List.range (m - n)).map fun j => D (n + j)) := congrArg Prod.fst hx
    have hcell : ∀ i, i < n → ∃ o : GOp, (∀ j v, o.cells.toList[j]? = some v → W.cell? (x.add (i * 5 + j)) = some v) ∧ o.name.size ≤ maxLen ∧ o.to.size ≤ maxLen ∧ o.len ≤ o.cap ∧ (o.ad = none → o.len = 0 ∧ o.cap = 0) ∧ o.len ≤ 9223372036854775807 ∧ (∃ l, Bytes W o.ad o.len l) ∧ (-9223372036854775808 ≤ o.n ∧ o.n ≤ 9223372036854775807) ∧ o.len ≤ 140737488351232 := by
      intro i hi
      have hwi : ∀ q ∈ (D i).weights Tryd.prog 34, q ≤ reachBytes := fun q hq => hw q (by
        rw [hd]
        simp only [DataW.weights, Tryd.underlying22]
        exact List.mem_cons_of_mem _ (List.mem_append.2 (.inl (weightsAll_mem (List.mem_map.2 ⟨i, List.mem_range.2 hi, rfl⟩) _ hq))))
      obtain ⟨cs', hc1, hc2⟩ := hel i (by omega)
      rw [show Tryd.prog.cellsOf 34 = 5 from by kernel_rfl] at hc1
      obtain ⟨xs, fu, _, hx0, _, hxl, hfl⟩ := DataW.trod_struct Tryd.underlying34 hc2
      obtain ⟨_, hlen2, hget⟩ := World.cells?_some hc1
      have e3 : Tryd.prog.cellsOf 3 = 1 := by kernel_rfl
      have e9 : Tryd.prog.cellsOf 9 = 1 := by kernel_rfl
      have e22 : Tryd.prog.cellsOf 32 = 1 := by kernel_rfl
      match cs', hlen2, xs, hxl with
      | [z0, z1, z2, z3, z4], _, [y0, y1, y2, y3, y4], _ =>
        have f0 : DataW.trod enc Tryd.prog W 0 (fun _ => true) true fu 3 [z0] = some y0 := by simpa [e3] using hfl 0 _ rfl
        have f1 : DataW.trod enc Tryd.prog W 0 (fun _ => true) true fu 9 [z1] = some y1 := by simpa [e9] using hfl 1 _ rfl
        have f2 : DataW.trod enc Tryd.prog W 0 (fun _ => true) true fu 9 [z2] = some y2 := by simpa [e9] using hfl 2 _ rfl
        have f3 : DataW.trod enc Tryd.prog W 0 (fun _ => true) true fu 3 [z3] = some y3 := by simpa [e3] using hfl 3 _ rfl
        have f4 : DataW.trod enc Tryd.prog W 0 (fun _ => true) true fu 32 [z4] = some y4 := by simpa [e22] using hfl 4 _ rfl
        have hdi : D i = .agg [y0.1, y1.1, y2.1, y3.1, y4.1] := congrArg Prod.fst hx0
        have hwe : ∀ q ∈ DataW.weightsEach Tryd.prog [3, 9, 9, 3, 32] [y0.1, y1.1, y2.1, y3.1, y4.1], q ≤ reachBytes := fun q hq => hwi q (by
          rw [hdi]
          simp only [DataW.weights, Tryd.underlying34]
          exact hq)
        obtain ⟨k0, c0, _, _⟩ := DataW.trod_int Tryd.underlying3 f0
        obtain ⟨s1, c1, _, hs1⟩ := DataW.trod_string Tryd.underlying9 f1
        obtain ⟨s2, c2, _, hs2⟩ := DataW.trod_string Tryd.underlying9 f2
        obtain ⟨k3, c3, _, w3⟩ := DataW.trod_int Tryd.underlying3 f3
        obtain ⟨a4, n4, cap4, l4, c4, hb4, hc4, hn4, hm4⟩ := bytes_cell f4
        have r4 : n4 * Tryd.prog.bytesOf 5 ≤ 140737488351232 := by
          rw [c4] at f4
          exact slice_room Tryd.underlying32 f4 (fun q hq => hwe q (each_mem 4 rfl rfl q hq))
        rw [show Tryd.prog.bytesOf 5 = 1 from by kernel_rfl, Nat.mul_one] at r4
        have b3 := bounds_i64 w3
        simp only [List.cons.injEq, and_true] at c0 c1 c2 c3
        subst c0 c1 c2 c3 c4
        refine ⟨⟨k0, s1, s2, k3, a4, n4, cap4⟩, fun j v hj => ?_, hs1, hs2, hc4, hn4, by unfold maxLen at hm4; simp only; omega, ⟨l4, hb4⟩, ⟨by show -9223372036854775808 ≤ k3; omega, by show k3 ≤ _; omega⟩, r4⟩
        have hj5 : j < 5 := by have := (List.getElem?_eq_some_iff.1 hj).1; simpa [GOp.cells] using this
        have := hget j (by simpa using hj5)
        rw [Deep.add_add] at this
        rw [this]
        simpa [GOp.cells] using hj
    haveI : Inhabited GOp := ⟨⟨0, ⟨#[]⟩, ⟨#[]⟩, 0, none, 0, 0⟩⟩
    obtain ⟨g, hg⟩ := Deep.choose_lt hcell
    have hget : ∀ k o, ((List.range n).map g)[k]? = some o → k < n ∧ o = g k := by
      intro k o ho
      simp only [List.getElem?_map, Option.map_eq_some_iff] at ho
      obtain ⟨i, hi, rfl⟩ := ho
      have hk := (List.getElem?_eq_some_iff.1 hi).1
      rw [List.getElem?_range (by simpa using hk)] at hi
      cases hi
      exact ⟨by simpa using hk, rfl⟩
    have hmem : ∀ o ∈ (List.range n).map g, ∃ k, k < n ∧ o = g k := by
      intro o ho
      obtain ⟨k, hk, rfl⟩ := List.mem_map.1 ho
      exact ⟨k, by simpa using hk, rfl⟩
    refine ⟨some x, n, cap, (List.range n).map g, rfl, ⟨by simp, fun k o ho => ?_, fun o ho => ?_⟩, fun o ho => ?_, by unfold maxLen at hmx; omega, fun o ho => ?_⟩
    · obtain ⟨hk, rfl⟩ := hget k o ho
      have h1 := (hg k hk).1
      obtain ⟨b, off, spot⟩ := x
      have hc := (hg 0 (by omega)).1 0 _ (by simp [GOp.cells]; rfl)
      have hspot : spot = none := by simpa [Addr.add] using World.cell?_spot hc
      subst hspot
      refine ⟨b, off, rfl, fun j v hv => ?_⟩
      have := h1 j v hv
      rw [Addr.add_lit, ← Nat.add_assoc] at this
      exact this
    · obtain ⟨k, hk, rfl⟩ := hmem o ho
      obtain ⟨_, h1, h2, h3, h4, _, h6, _⟩ := hg k hk
      exact ⟨h1, h2, h3, h4, h6⟩
    · obtain ⟨k, hk, rfl⟩ := hmem o ho
      obtain ⟨_, h1, h2, h3, h4, h5, h6, _⟩ := hg k hk
      exact ⟨h1, h2, h3, h4, h5, h6⟩
    · obtain ⟨k, hk, rfl⟩ := hmem o ho
      exact (hg k hk).2.2.2.2.2.2.2

end Go.Proofs.YtcbmofapnjdmgaaDoor
