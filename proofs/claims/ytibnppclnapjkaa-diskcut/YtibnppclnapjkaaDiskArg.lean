/- A script that came in, opened: the operations, their names, their bytes. -/
import Derived.Test.YtibnppclnapjkaaDiskTwo
import Derived.Test.YtibnppclnapjkaaDiskPartsLaw
import Derived.Deep.Slices
namespace Go.Proofs.Ytibnppclnapjkaa
open Go.ChangeShapes Go.WideShapes Go.ChangeAt Go.RowKit Go.Maps

theorem bytes_cell {H : Type} {enc : TypeId × Value → H} {W : World} {fuel : Nat} {v : Value} {x : DataW H × List MemPlace} (hf : DataW.trod enc Try.prog W 0 (fun _ => true) true fuel 22 [v] = some x) :
    ∃ a n cap l, v = .slice a n cap ∧ Bytes W a n l ∧ n ≤ cap ∧ (a = none → n = 0 ∧ cap = 0) ∧ n ≤ maxLen := by
  rcases open_ints Try.underlying22 Try.underlying5 (by kernel_rfl) hf with ⟨hcs, _⟩ | ⟨x, n, cap, zs, hcs, _, hl, hm, hz, hx, hcell, hwz⟩
  · simp only [List.cons.injEq, and_true] at hcs
    subst hcs
    exact ⟨none, 0, 0, [], rfl, ⟨rfl, fun h0 => by omega⟩, Nat.le_refl _, fun _ => ⟨rfl, rfl⟩, Nat.zero_le _⟩
  · simp only [List.cons.injEq, and_true] at hcs
    subst hcs
    simp only [if_true] at hz
    refine ⟨some x, n, cap, (zs.take n).map (fun z => UInt8.ofNat z.toNat), rfl, ⟨by simp; omega, fun h0 => ?_⟩, hl, (fun h => by cases h), by omega⟩
    obtain ⟨b, off, spot⟩ := x
    have hc := hcell 0 (by omega)
    have hspot : spot = none := by simpa [Addr.add] using World.cell?_spot hc
    subst hspot
    refine ⟨b, off, rfl, fun i hi => ?_⟩
    have hci := hcell i (by omega)
    rw [Addr.add_lit] at hci
    rw [hci]
    have hb : 0 ≤ zs.getD i 0 ∧ zs.getD i 0 ≤ 255 := by
      rw [List.getD_eq_getElem?_getD]
      exact range_u8 hwz i
    have e : bt ((zs.take n).map (fun z => UInt8.ofNat z.toNat)) i = zs.getD i 0 := by
      unfold bt
      have e1 : ((zs.take n).map (fun z => UInt8.ofNat z.toNat)).getD i 0 = UInt8.ofNat (zs.getD i 0).toNat := by
        simp [List.getD, hi, show i < zs.length by omega]
      rw [e1, UInt8.toNat_ofNat']
      omega
    rw [e]

theorem ops_arg {H : Type} {enc : TypeId × Value → H} {W : World} {base : Nat} {v : Value} {d : DataW H} {ps : List MemPlace} (hok : Value.okWide Try.prog W .any base 44 v)
    (h : DataW.Trod enc Try.prog W 0 (fun _ => true) true 44 v d ps) :
    ∃ a n cap ops, v = .slice a n cap ∧ Ops W a n ops ∧ Fits W ops ∧ n ≤ 9223372036854775807 := by
  obtain ⟨a, n, cap, rfl⟩ := okWide_slice Try.underlying44 hok
  obtain ⟨fuel, hf⟩ := h
  rcases Deep.open_slice Try.underlying44 hf with ⟨hcs, _⟩ | ⟨x, len, c, m, j, D, Pl, hcs, _, hl, hmx, hm, hx, hel⟩
  · simp [Value.cells] at hcs
    obtain ⟨rfl, rfl, rfl⟩ := hcs
    exact ⟨none, 0, 0, [], rfl, ⟨rfl, fun k o ho => by simp at ho, fun o ho => by simp at ho⟩, fun o ho => by simp at ho, by omega⟩
  · simp [Value.cells] at hcs
    obtain ⟨rfl, rfl, rfl⟩ := hcs
    simp only [if_true] at hm
    have hcell : ∀ i, i < n → ∃ o : GOp, (∀ j v, o.cells.toList[j]? = some v → W.cell? (x.add (i * 5 + j)) = some v) ∧ o.name.size ≤ maxLen ∧ o.to.size ≤ maxLen ∧ o.len ≤ o.cap ∧ (o.ad = none → o.len = 0 ∧ o.cap = 0) ∧ o.len ≤ 9223372036854775807 ∧ ∃ l, Bytes W o.ad o.len l := by
      intro i hi
      obtain ⟨cs', hc1, hc2⟩ := hel i (by omega)
      rw [show Try.prog.cellsOf 47 = 5 from by kernel_rfl] at hc1
      obtain ⟨xs, fu, _, _, _, hxl, hfl⟩ := DataW.trod_struct Try.underlying47 hc2
      obtain ⟨_, hlen2, hget⟩ := World.cells?_some hc1
      have e3 : Try.prog.cellsOf 3 = 1 := by kernel_rfl
      have e9 : Try.prog.cellsOf 9 = 1 := by kernel_rfl
      have e22 : Try.prog.cellsOf 22 = 1 := by kernel_rfl
      match cs', hlen2, xs, hxl with
      | [z0, z1, z2, z3, z4], _, [y0, y1, y2, y3, y4], _ =>
        have f0 : DataW.trod enc Try.prog W 0 (fun _ => true) true fu 3 [z0] = some y0 := by simpa [e3] using hfl 0 _ rfl
        have f1 : DataW.trod enc Try.prog W 0 (fun _ => true) true fu 9 [z1] = some y1 := by simpa [e9] using hfl 1 _ rfl
        have f2 : DataW.trod enc Try.prog W 0 (fun _ => true) true fu 9 [z2] = some y2 := by simpa [e9] using hfl 2 _ rfl
        have f3 : DataW.trod enc Try.prog W 0 (fun _ => true) true fu 3 [z3] = some y3 := by simpa [e3] using hfl 3 _ rfl
        have f4 : DataW.trod enc Try.prog W 0 (fun _ => true) true fu 22 [z4] = some y4 := by simpa [e22] using hfl 4 _ rfl
        obtain ⟨k0, c0, _, _⟩ := DataW.trod_int Try.underlying3 f0
        obtain ⟨s1, c1, _, hs1⟩ := DataW.trod_string Try.underlying9 f1
        obtain ⟨s2, c2, _, hs2⟩ := DataW.trod_string Try.underlying9 f2
        obtain ⟨k3, c3, _, _⟩ := DataW.trod_int Try.underlying3 f3
        obtain ⟨a4, n4, cap4, l4, c4, hb4, hc4, hn4, hm4⟩ := bytes_cell f4
        simp only [List.cons.injEq, and_true] at c0 c1 c2 c3
        subst c0 c1 c2 c3 c4
        refine ⟨⟨k0, s1, s2, k3, a4, n4, cap4⟩, fun j v hj => ?_, hs1, hs2, hc4, hn4, by unfold maxLen at hm4; simp only; omega, l4, hb4⟩
        have hj5 : j < 5 := by have := (List.getElem?_eq_some_iff.1 hj).1; simpa [GOp.cells] using this
        have := hget j (by simpa using hj5)
        rw [Deep.add_add] at this
        rw [this]
        simpa [GOp.cells] using hj
    haveI : Inhabited GOp := ⟨⟨0, ⟨#[]⟩, ⟨#[]⟩, 0, none, 0, 0⟩⟩
    obtain ⟨g, hg⟩ := Deep.choose_lt hcell
    have hget : ∀ k o, ((List.range n).map g)[k]? = some o → k < n ∧ o = g k := by
      intro k o ho
      simp only [List.getElem?_map, Option.map_eq_some_iff] at ho
      obtain ⟨i, hi, rfl⟩ := ho
      have hk := (List.getElem?_eq_some_iff.1 hi).1
      rw [List.getElem?_range (by simpa using hk)] at hi
      cases hi
      exact ⟨by simpa using hk, rfl⟩
    have hmem : ∀ o ∈ (List.range n).map g, ∃ k, k < n ∧ o = g k := by
      intro o ho
      obtain ⟨k, hk, rfl⟩ := List.mem_map.1 ho
      exact ⟨k, by simpa using hk, rfl⟩
    refine ⟨some x, n, cap, (List.range n).map g, rfl, ⟨by simp, fun k o ho => ?_, fun o ho => ?_⟩, fun o ho => ?_, by unfold maxLen at hmx; omega⟩
    · obtain ⟨hk, rfl⟩ := hget k o ho
      have h1 := (hg k hk).1
      obtain ⟨b, off, spot⟩ := x
      have hc := (hg 0 (by omega)).1 0 _ (by simp [GOp.cells]; rfl)
      have hspot : spot = none := by simpa [Addr.add] using World.cell?_spot hc
      subst hspot
      refine ⟨b, off, rfl, fun j v hv => ?_⟩
      have := h1 j v hv
      rw [Addr.add_lit, ← Nat.add_assoc] at this
      exact this
    · obtain ⟨k, hk, rfl⟩ := hmem o ho
      obtain ⟨_, h1, h2, h3, h4, _, h6⟩ := hg k hk
      exact ⟨h1, h2, h3, h4, h6⟩
    · obtain ⟨k, hk, rfl⟩ := hmem o ho
      exact (hg k hk).2

end Go.Proofs.Ytibnppclnapjkaa
