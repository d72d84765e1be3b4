import Derived.Test.YthalpnpnbclipaaGreatL01
import Derived.Test.YthalpnpnbclipaaGreatProg
import Derived.ProofKit
import Derived.OpenShut
import Derived.ShutString
import Derived.ChangeOld
import Derived.SizedLaws
import Derived.Deep.Slices
import Derived.Test.YthalpnpnbclipaaGreatL04
import Derived.Test.YthalpnpnbclipaaGreatL12
import Derived.Test.YthalpnpnbclipaaGreatL48
import Derived.Test.YthalpnpnbclipaaGreatL37
import Derived.Test.YthalpnpnbclipaaGreatRows
/- A commit that came in, opened. -/
namespace Go.Proofs.YthalpnpnbclipaaGreat
open Go.ChangeShapes Go.WideShapes Go.ChangeAt Go.RowKit

set_option maxRecDepth 100000 in
theorem commit_arg {H : Type} {enc : TypeId × Value → H} {W : World} {base : Nat} {v : Value} {d : DataW H} {ps : List MemPlace} (hok : Value.okWide Tryz.prog W .any base 39 v)
    (h : DataW.Trod enc Tryz.prog W 0 (fun _ => true) true 39 v d ps) :
    ∃ t pa pn pc au dd tx, v = .agg #[.int .u64 t, .slice pa pn pc, .string au, .int .i64 dd, .string tx] := by
  obtain ⟨cs, rfl, hsz⟩ := okWide_struct Tryz.underlying39 hok
  rw [show Tryz.prog.cellsOf 39 = 5 from by kernel_rfl] at hsz
  obtain ⟨fuel, hf⟩ := h
  obtain ⟨xs, fu, _, _, _, hxl, hfl⟩ := DataW.trod_struct Tryz.underlying39 hf
  have e0 : Tryz.prog.cellsOf 24 = 1 := by kernel_rfl
  have e1 : Tryz.prog.cellsOf 32 = 1 := by kernel_rfl
  have e2 : Tryz.prog.cellsOf 9 = 1 := by kernel_rfl
  have e3 : Tryz.prog.cellsOf 2 = 1 := by kernel_rfl
  obtain ⟨z0, z1, z2, z3, z4, rfl⟩ : ∃ z0 z1 z2 z3 z4, cs = #[z0, z1, z2, z3, z4] := by
    obtain ⟨l⟩ := cs
    match l, hsz with
    | [a, b, c, d, e], _ => exact ⟨a, b, c, d, e, rfl⟩
  match xs, hxl with
  | [y0, y1, y2, y3, y4], _ =>
    have f0 : DataW.trod enc Tryz.prog W 0 (fun _ => true) true fu 24 [z0] = some y0 := by simpa [e0, Value.cells] using hfl 0 _ rfl
    have f1 : DataW.trod enc Tryz.prog W 0 (fun _ => true) true fu 32 [z1] = some y1 := by simpa [e1, Value.cells] using hfl 1 _ rfl
    have f2 : DataW.trod enc Tryz.prog W 0 (fun _ => true) true fu 9 [z2] = some y2 := by simpa [e2, Value.cells] using hfl 2 _ rfl
    have f3 : DataW.trod enc Tryz.prog W 0 (fun _ => true) true fu 2 [z3] = some y3 := by simpa [e3, Value.cells] using hfl 3 _ rfl
    have f4 : DataW.trod enc Tryz.prog W 0 (fun _ => true) true fu 9 [z4] = some y4 := by simpa [e2, Value.cells] using hfl 4 _ rfl
    obtain ⟨k0, c0, _, _⟩ := DataW.trod_int Tryz.underlying24 f0
    obtain ⟨s2, c2, _, _⟩ := DataW.trod_string Tryz.underlying9 f2
    obtain ⟨k3, c3, _, _⟩ := DataW.trod_int Tryz.underlying2 f3
    obtain ⟨s4, c4, _, _⟩ := DataW.trod_string Tryz.underlying9 f4
    have f1' : ∃ a n c, z1 = .slice a n c := by
      rcases Deep.open_slice Tryz.underlying32 f1 with ⟨hcs, _⟩ | ⟨x, len, c, m, j, D, Pl, hcs, _⟩
      · simp only [List.cons.injEq, and_true] at hcs; exact ⟨_, _, _, hcs⟩
      · simp only [List.cons.injEq, and_true] at hcs; exact ⟨_, _, _, hcs⟩
    obtain ⟨pa, pn, pc, rfl⟩ := f1'
    simp only [List.cons.injEq, and_true] at c0 c2 c3 c4
    subst c0 c2 c3 c4
    exact ⟨_, _, _, _, _, _, _, rfl⟩
end Go.Proofs.YthalpnpnbclipaaGreat

/- Entries and a commit that came in, opened with what they hold. -/
namespace Go.Proofs.YthalpnpnbclipaaGreat
open Go.ChangeShapes Go.WideShapes Go.ChangeAt Go.RowKit

theorem ids_cell {H : Type} {enc : TypeId × Value → H} {W : World} {fuel : Nat} {v : Value} {x : DataW H × List MemPlace} (hf : DataW.trod enc Tryz.prog W 0 (fun _ => true) true fuel 32 [v] = some x) :
    ∃ a n cap l, v = .slice a n cap ∧ Ids W a n l ∧ n ≤ 9223372036854775807 := by
  rcases open_ints Tryz.underlying32 Tryz.underlying24 (by kernel_rfl) hf with ⟨hcs, _⟩ | ⟨x, n, cap, zs, hcs, _, hl, hm, hz, hx, hcell, hwz⟩
  · simp only [List.cons.injEq, and_true] at hcs
    subst hcs
    exact ⟨none, 0, 0, [], rfl, ⟨rfl, fun h0 => by omega⟩, by omega⟩
  · simp only [List.cons.injEq, and_true] at hcs
    subst hcs
    simp only [if_true] at hz
    refine ⟨some x, n, cap, zs.take n, rfl, ⟨by rw [List.length_take]; omega, fun h0 => ?_⟩, by unfold maxLen at hm; omega⟩
    obtain ⟨b, off, spot⟩ := x
    have hc := hcell 0 (by omega)
    have hspot : spot = none := by simpa [Addr.add] using World.cell?_spot hc
    subst hspot
    refine ⟨b, off, rfl, fun i x hx => ?_⟩
    have hi : i < n := by have := (List.getElem?_eq_some_iff.1 hx).1; rw [List.length_take] at this; omega
    have hci := hcell i (by omega)
    rw [Addr.add_lit] at hci
    rw [hci]
    rw [List.getElem?_take_of_lt hi] at hx
    rw [List.getD_eq_getElem?_getD, hx]; rfl

set_option maxRecDepth 100000 in
theorem commit_arg2 {H : Type} {enc : TypeId × Value → H} {W : World} {base : Nat} {v : Value} {d : DataW H} {ps : List MemPlace} (hok : Value.okWide Tryz.prog W .any base 39 v)
    (h : DataW.Trod enc Tryz.prog W 0 (fun _ => true) true 39 v d ps) :
    ∃ t pa pn pc l au dd tx, v = cmt t pa pn pc au dd tx ∧ Ids W pa pn l ∧ pn ≤ 9223372036854775807 := by
  obtain ⟨t, pa, pn, pc, au, dd, tx, rfl⟩ := commit_arg hok h
  obtain ⟨fuel, hf⟩ := h
  obtain ⟨xs, fu, _, _, _, hxl, hfl⟩ := DataW.trod_struct Tryz.underlying39 hf
  have e1 : Tryz.prog.cellsOf 32 = 1 := by kernel_rfl
  match xs, hxl with
  | [y0, y1, y2, y3, y4], _ =>
    have f1 : DataW.trod enc Tryz.prog W 0 (fun _ => true) true fu 32 [.slice pa pn pc] = some y1 := by simpa [e1, Value.cells] using hfl 1 _ rfl
    obtain ⟨a', n', c', l, e, hI, hn⟩ := ids_cell f1
    cases e
    exact ⟨t, pa, pn, pc, l, au, dd, tx, rfl, hI, hn⟩

set_option maxRecDepth 100000 in
theorem entries_arg {H : Type} {enc : TypeId × Value → H} {W : World} {base : Nat} {v : Value} {d : DataW H} {ps : List MemPlace} (hok : Value.okWide Tryz.prog W .any base 37 v)
    (h : DataW.Trod enc Tryz.prog W 0 (fun _ => true) true 37 v d ps) :
    ∃ a n cap es, v = .slice a n cap ∧ Ents W a n es ∧ n ≤ 9223372036854775807 := by
  obtain ⟨a, n, cap, rfl⟩ := okWide_slice Tryz.underlying37 hok
  obtain ⟨fuel, hf⟩ := h
  rcases Deep.open_slice Tryz.underlying37 hf with ⟨hcs, _⟩ | ⟨x, len, c, m, j, D, Pl, hcs, _, hl, hmx, hm, hx, hel⟩
  · simp [Value.cells] at hcs
    obtain ⟨rfl, rfl, rfl⟩ := hcs
    exact ⟨none, 0, 0, [], rfl, ⟨rfl, fun h0 => by omega⟩, by omega⟩
  · simp [Value.cells] at hcs
    obtain ⟨rfl, rfl, rfl⟩ := hcs
    simp only [if_true] at hm
    have hcell : ∀ i, i < n → ∃ o : Ent, W.cell? (x.add (i * 3)) = some (.string o.1) ∧ W.cell? (x.add (i * 3 + 1)) = some (.bool o.2.1) ∧ W.cell? (x.add (i * 3 + 2)) = some (.int .u64 o.2.2) := by
      intro i hi
      obtain ⟨cs', hc1, hc2⟩ := hel i (by omega)
      rw [show Tryz.prog.cellsOf 127 = 3 from by kernel_rfl] at hc1
      obtain ⟨xs, fu, _, _, _, hxl, hfl⟩ := DataW.trod_struct Tryz.underlying127 hc2
      obtain ⟨_, hlen2, hget⟩ := World.cells?_some hc1
      have e9 : Tryz.prog.cellsOf 9 = 1 := by kernel_rfl
      have e4 : Tryz.prog.cellsOf 4 = 1 := by kernel_rfl
      have e39 : Tryz.prog.cellsOf 24 = 1 := by kernel_rfl
      match cs', hlen2, xs, hxl with
      | [z0, z1, z2], _, [y0, y1, y2], _ =>
        have f0 : DataW.trod enc Tryz.prog W 0 (fun _ => true) true fu 9 [z0] = some y0 := by simpa [e9] using hfl 0 _ rfl
        have f1 : DataW.trod enc Tryz.prog W 0 (fun _ => true) true fu 4 [z1] = some y1 := by simpa [e4] using hfl 1 _ rfl
        have f2 : DataW.trod enc Tryz.prog W 0 (fun _ => true) true fu 24 [z2] = some y2 := by simpa [e39] using hfl 2 _ rfl
        obtain ⟨s0, c0, _, _⟩ := DataW.trod_string Tryz.underlying9 f0
        obtain ⟨b1, c1, _⟩ := DataW.trod_bool Tryz.underlying4 f1
        obtain ⟨k2, c2, _, _⟩ := DataW.trod_int Tryz.underlying24 f2
        simp only [List.cons.injEq, and_true] at c0 c1 c2
        subst c0 c1 c2
        have g0 := hget 0 (by simp)
        have g1 := hget 1 (by simp)
        have g2 := hget 2 (by simp)
        rw [Deep.add_add] at g0 g1 g2
        exact ⟨(s0, b1, k2), by simpa using g0, by simpa using g1, by simpa using g2⟩
    haveI : Inhabited Ent := ⟨(⟨#[]⟩, false, 0)⟩
    obtain ⟨g, hg⟩ := Deep.choose_lt hcell
    refine ⟨some x, n, cap, (List.range n).map g, rfl, ⟨by simp, fun h0 => ?_⟩, by unfold maxLen at hmx; omega⟩
    obtain ⟨b, off, spot⟩ := x
    have hc := (hg 0 h0).1
    have hspot : spot = none := by simpa [Addr.add] using World.cell?_spot hc
    subst hspot
    refine ⟨b, off, rfl, fun i y hy => ?_⟩
    have hi : i < n := by have := (List.getElem?_eq_some_iff.1 hy).1; simpa using this
    have ey : y = g i := by
      rw [List.getElem?_map, List.getElem?_range hi] at hy
      exact (Option.some.inj hy).symm
    subst ey
    have := hg i hi
    rw [Addr.add_lit, Addr.add_lit, Addr.add_lit, ← Nat.add_assoc, ← Nat.add_assoc] at this
    exact this
end Go.Proofs.YthalpnpnbclipaaGreat

/- A commit that came in, opened, with what may be said of its fields. -/
namespace Go.Proofs.YthalpnpnbclipaaGreat
open Go.ChangeShapes Go.WideShapes Go.ChangeAt Go.RowKit

theorem ids_cell3 {H : Type} {enc : TypeId × Value → H} {W : World} {fuel : Nat} {v : Value} {x : DataW H × List MemPlace} (hf : DataW.trod enc Tryz.prog W 0 (fun _ => true) true fuel 32 [v] = some x) :
    ∃ a n cap l, v = .slice a n cap ∧ Ids W a n l ∧ (∀ x ∈ l, 0 ≤ x ∧ x < 18446744073709551616) ∧ n ≤ cap ∧ n ≤ 9223372036854775807 ∧ (a = none → n = 0 ∧ cap = 0) := by
  rcases open_ints Tryz.underlying32 Tryz.underlying24 (by kernel_rfl) hf with ⟨hcs, _⟩ | ⟨x, n, cap, zs, hcs, _, hl, hm, hz, hx, hcell, hwz⟩
  · simp only [List.cons.injEq, and_true] at hcs
    subst hcs
    exact ⟨none, 0, 0, [], rfl, ⟨rfl, fun h0 => by omega⟩, fun x hx => (by simp at hx), Nat.le_refl _, by omega, fun _ => ⟨rfl, rfl⟩⟩
  · simp only [List.cons.injEq, and_true] at hcs
    subst hcs
    simp only [if_true] at hz
    refine ⟨some x, n, cap, zs.take n, rfl, ⟨by rw [List.length_take]; omega, fun h0 => ?_⟩, fun x hx => ?_, hl, by unfold maxLen at hm; omega, fun h => by cases h⟩
    · obtain ⟨b, off, spot⟩ := x
      have hc := hcell 0 (by omega)
      have hspot : spot = none := by simpa [Addr.add] using World.cell?_spot hc
      subst hspot
      refine ⟨b, off, rfl, fun i x hx => ?_⟩
      have hi : i < n := by have := (List.getElem?_eq_some_iff.1 hx).1; rw [List.length_take] at this; omega
      have hci := hcell i (by omega)
      rw [Addr.add_lit] at hci
      rw [hci]
      rw [List.getElem?_take_of_lt hi] at hx
      rw [List.getD_eq_getElem?_getD, hx]; rfl
    · have := bounds_u64 (hwz x (List.mem_of_mem_take hx))
      omega

set_option maxRecDepth 100000 in
theorem commit_arg3 {H : Type} {enc : TypeId × Value → H} {W : World} {base : Nat} {v : Value} {d : DataW H} {ps : List MemPlace} (hok : Value.okWide Tryz.prog W .any base 39 v)
    (h : DataW.Trod enc Tryz.prog W 0 (fun _ => true) true 39 v d ps) :
    ∃ t pa pn pc l au dd tx, v = cmt t pa pn pc au dd tx ∧ Com W t pa pn pc l au dd tx := by
  obtain ⟨t, pa, pn, pc, au, dd, tx, rfl⟩ := commit_arg hok h
  obtain ⟨fuel, hf⟩ := h
  obtain ⟨xs, fu, _, _, _, hxl, hfl⟩ := DataW.trod_struct Tryz.underlying39 hf
  have e0 : Tryz.prog.cellsOf 24 = 1 := by kernel_rfl
  have e1 : Tryz.prog.cellsOf 32 = 1 := by kernel_rfl
  have e2 : Tryz.prog.cellsOf 9 = 1 := by kernel_rfl
  have e3 : Tryz.prog.cellsOf 2 = 1 := by kernel_rfl
  match xs, hxl with
  | [y0, y1, y2, y3, y4], _ =>
    have f0 : DataW.trod enc Tryz.prog W 0 (fun _ => true) true fu 24 [.int .u64 t] = some y0 := by simpa [e0, Value.cells] using hfl 0 _ rfl
    have f1 : DataW.trod enc Tryz.prog W 0 (fun _ => true) true fu 32 [.slice pa pn pc] = some y1 := by simpa [e1, Value.cells] using hfl 1 _ rfl
    have f2 : DataW.trod enc Tryz.prog W 0 (fun _ => true) true fu 9 [.string au] = some y2 := by simpa [e2, Value.cells] using hfl 2 _ rfl
    have f3 : DataW.trod enc Tryz.prog W 0 (fun _ => true) true fu 2 [.int .i64 dd] = some y3 := by simpa [e3, Value.cells] using hfl 3 _ rfl
    have f4 : DataW.trod enc Tryz.prog W 0 (fun _ => true) true fu 9 [.string tx] = some y4 := by simpa [e2, Value.cells] using hfl 4 _ rfl
    obtain ⟨k0, c0, _, w0⟩ := DataW.trod_int Tryz.underlying24 f0
    obtain ⟨s2, c2, _, w2⟩ := DataW.trod_string Tryz.underlying9 f2
    obtain ⟨k3, c3, _, w3⟩ := DataW.trod_int Tryz.underlying2 f3
    obtain ⟨s4, c4, _, w4⟩ := DataW.trod_string Tryz.underlying9 f4
    cases c0
    cases c2
    cases c3
    cases c4
    obtain ⟨a', n', c', l, e, hI, hb, h1, h2, h3⟩ := ids_cell3 f1
    cases e
    have b0 := bounds_u64 w0
    have b3 := bounds_i64 w3
    exact ⟨t, pa, pn, pc, l, au, dd, tx, rfl, by omega, hI, hb, ⟨h1, h2, h3⟩, w2, by omega, w4⟩
end Go.Proofs.YthalpnpnbclipaaGreat

/- A slice of things that came in, opened. -/
namespace Go.Proofs.YthalpnpnbclipaaGreat
open Go.ChangeShapes Go.WideShapes Go.ChangeAt Go.RowKit

theorem weightsAll_mem {H : Type} {P : Program} {e : TypeId} : ∀ {l : List (DataW H)} {d : DataW H}, d ∈ l → ∀ q ∈ d.weights P e, q ∈ DataW.weightsAll P e l
  | d0 :: r, d, hd, q, hq => by
    simp only [DataW.weightsAll, List.mem_append]
    rcases List.mem_cons.1 hd with rfl | h
    · exact .inl hq
    · exact .inr (weightsAll_mem h q hq)
/-- no slice that came in takes more than a machine reaches -/
theorem slice_room {H : Type} {enc : TypeId × Value → H} {W : World} {t e : TypeId} (ht : Tryz.prog.underlying t = some (.slice e)) {fuel : Nat} {a : Option Addr} {n cap : Nat} {x0 : DataW H × List MemPlace} (hf : DataW.trod enc Tryz.prog W 0 (fun _ => true) true fuel t [.slice a n cap] = some x0) (hw : ∀ q ∈ x0.1.weights Tryz.prog t, q ≤ reachBytes) : n * Tryz.prog.bytesOf e ≤ 140737488351232 := by
  rcases Deep.open_slice ht hf with ⟨hcs, _⟩ | ⟨x, n', cap', m, j, D, Pl, hcs, _, hl, hmx, hm, hx, hel⟩
  · simp only [List.cons.injEq, and_true, Value.slice.injEq] at hcs
    rw [hcs.2.1]; omega
  · simp only [List.cons.injEq, and_true, Value.slice.injEq] at hcs
    obtain ⟨_, rfl, rfl⟩ := hcs
    have hd : x0.1 = .slice ((List.range n).map D) ((List.range (m - n)).map fun j => D (n + j)) := congrArg Prod.fst hx
    have := hw ((((List.range n).map D).length + ((List.range (m - n)).map fun j => D (n + j)).length) * Tryz.prog.bytesOf e) (by
      rw [hd]
      simp only [DataW.weights, ht]
      exact List.mem_cons_self)
    have hr : reachBytes = 140737488351232 := rfl
    rw [List.length_map, List.length_range, hr] at this
    exact Nat.le_trans (Nat.mul_le_mul (Nat.le_add_right _ _) (Nat.le_refl _)) this

set_option maxRecDepth 100000 in
theorem entries_cell {H : Type} {enc : TypeId × Value → H} {W : World} {fuel : Nat} {v : Value} {x0 : DataW H × List MemPlace} (hf : DataW.trod enc Tryz.prog W 0 (fun _ => true) true fuel 37 [v] = some x0) :
    ∃ a n cap es, v = .slice a n cap ∧ Ents W a n es ∧ Fields es ∧ n ≤ cap ∧ (a = none → n = 0 ∧ cap = 0) := by
  rcases Deep.open_slice Tryz.underlying37 hf with ⟨hcs, _⟩ | ⟨x, n, cap, m, j, D, Pl, hcs, _, hl, hmx, hm, hx, hel⟩
  · simp only [List.cons.injEq, and_true] at hcs
    subst hcs
    exact ⟨none, 0, 0, [], rfl, ⟨rfl, fun h0 => by omega⟩, ⟨fun j x h => by simp at h, fun j x h => by simp at h⟩, Nat.le_refl _, fun _ => ⟨rfl, rfl⟩⟩
  · simp only [List.cons.injEq, and_true] at hcs
    subst hcs
    simp only [if_true] at hm
    have hcell : ∀ i, i < n → ∃ o : Ent, W.cell? (x.add (i * 3)) = some (.string o.1) ∧ W.cell? (x.add (i * 3 + 1)) = some (.bool o.2.1) ∧ W.cell? (x.add (i * 3 + 2)) = some (.int .u64 o.2.2) ∧ o.1.size ≤ maxLen ∧ 0 ≤ o.2.2 ∧ o.2.2 < 18446744073709551616 := by
      intro i hi
      obtain ⟨cs', hc1, hc2⟩ := hel i (by omega)
      rw [show Tryz.prog.cellsOf 127 = 3 from by kernel_rfl] at hc1
      obtain ⟨xs, fu, _, _, _, hxl, hfl⟩ := DataW.trod_struct Tryz.underlying127 hc2
      obtain ⟨_, hlen2, hget⟩ := World.cells?_some hc1
      have e9 : Tryz.prog.cellsOf 9 = 1 := by kernel_rfl
      have e4 : Tryz.prog.cellsOf 4 = 1 := by kernel_rfl
      have e39 : Tryz.prog.cellsOf 24 = 1 := by kernel_rfl
      match cs', hlen2, xs, hxl with
      | [z0, z1, z2], _, [y0, y1, y2], _ =>
        have f0 : DataW.trod enc Tryz.prog W 0 (fun _ => true) true fu 9 [z0] = some y0 := by simpa [e9] using hfl 0 _ rfl
        have f1 : DataW.trod enc Tryz.prog W 0 (fun _ => true) true fu 4 [z1] = some y1 := by simpa [e4] using hfl 1 _ rfl
        have f2 : DataW.trod enc Tryz.prog W 0 (fun _ => true) true fu 24 [z2] = some y2 := by simpa [e39] using hfl 2 _ rfl
        obtain ⟨s0, c0, _, w0⟩ := DataW.trod_string Tryz.underlying9 f0
        obtain ⟨b1, c1, _⟩ := DataW.trod_bool Tryz.underlying4 f1
        obtain ⟨k2, c2, _, w2⟩ := DataW.trod_int Tryz.underlying24 f2
        simp only [List.cons.injEq, and_true] at c0 c1 c2
        subst c0 c1 c2
        have g0 := hget 0 (by simp)
        have g1 := hget 1 (by simp)
        have g2 := hget 2 (by simp)
        rw [Deep.add_add] at g0 g1 g2
        have hw2 := bounds_u64 w2
        exact ⟨(s0, b1, k2), by simpa using g0, by simpa using g1, by simpa using g2, w0, hw2.1, by show k2 < _; omega⟩
    haveI : Inhabited Ent := ⟨(⟨#[]⟩, false, 0)⟩
    obtain ⟨g, hg⟩ := Deep.choose_lt hcell
    have hgy : ∀ (i : Nat) y, ((List.range n).map g)[i]? = some y → i < n ∧ y = g i := fun i y hy => by
      have hi : i < n := by have := (List.getElem?_eq_some_iff.1 hy).1; simpa using this
      rw [List.getElem?_map, List.getElem?_range hi] at hy
      exact ⟨hi, (Option.some.inj hy).symm⟩
    refine ⟨some x, n, cap, (List.range n).map g, rfl, ⟨by simp, fun h0 => ?_⟩, ⟨fun i y hy => ?_, fun i y hy => ?_⟩, hl, fun h => by cases h⟩
    rotate_left
    · obtain ⟨hi, rfl⟩ := hgy i y hy
      exact (hg i hi).2.2.2.1
    · obtain ⟨hi, rfl⟩ := hgy i y hy
      exact (hg i hi).2.2.2.2
    obtain ⟨b, off, spot⟩ := x
    have hc := (hg 0 h0).1
    have hspot : spot = none := by simpa [Addr.add] using World.cell?_spot hc
    subst hspot
    refine ⟨b, off, rfl, fun i y hy => ?_⟩
    have hi : i < n := by have := (List.getElem?_eq_some_iff.1 hy).1; simpa using this
    have ey : y = g i := by
      rw [List.getElem?_map, List.getElem?_range hi] at hy
      exact (Option.some.inj hy).symm
    subst ey
    obtain ⟨e1, e2, e3, _⟩ := hg i hi
    rw [Addr.add_lit] at e1 e2 e3
    rw [← Nat.add_assoc] at e2 e3
    exact ⟨e1, e2, e3⟩

set_option maxRecDepth 100000 in
theorem commit_cells {H : Type} {enc : TypeId × Value → H} {W : World} {fuel : Nat} {z0 z1 z2 z3 z4 : Value} {x0 : DataW H × List MemPlace} (hf : DataW.trod enc Tryz.prog W 0 (fun _ => true) true fuel 39 [z0, z1, z2, z3, z4] = some x0) (hw : ∀ q ∈ x0.1.weights Tryz.prog 39, q ≤ reachBytes) :
    ∃ t pa pn pc l au dd tx, z0 = .int .u64 t ∧ z1 = .slice pa pn pc ∧ z2 = .string au ∧ z3 = .int .i64 dd ∧ z4 = .string tx ∧ Com W t pa pn pc l au dd tx ∧ pn * 8 ≤ 140737488351232 := by
  obtain ⟨xs, fu, _, hx0, _, hxl, hfl⟩ := DataW.trod_struct Tryz.underlying39 hf
  have e0 : Tryz.prog.cellsOf 24 = 1 := by kernel_rfl
  have e1 : Tryz.prog.cellsOf 32 = 1 := by kernel_rfl
  have e2 : Tryz.prog.cellsOf 9 = 1 := by kernel_rfl
  have e3 : Tryz.prog.cellsOf 2 = 1 := by kernel_rfl
  match xs, hxl with
  | [y0, y1, y2, y3, y4], _ =>
    have f0 : DataW.trod enc Tryz.prog W 0 (fun _ => true) true fu 24 [z0] = some y0 := by simpa [e0, Value.cells] using hfl 0 _ rfl
    have f1 : DataW.trod enc Tryz.prog W 0 (fun _ => true) true fu 32 [z1] = some y1 := by simpa [e1, Value.cells] using hfl 1 _ rfl
    have f2 : DataW.trod enc Tryz.prog W 0 (fun _ => true) true fu 9 [z2] = some y2 := by simpa [e2, Value.cells] using hfl 2 _ rfl
    have f3 : DataW.trod enc Tryz.prog W 0 (fun _ => true) true fu 2 [z3] = some y3 := by simpa [e3, Value.cells] using hfl 3 _ rfl
    have f4 : DataW.trod enc Tryz.prog W 0 (fun _ => true) true fu 9 [z4] = some y4 := by simpa [e2, Value.cells] using hfl 4 _ rfl
    obtain ⟨k0, c0, _, w0⟩ := DataW.trod_int Tryz.underlying24 f0
    obtain ⟨s2, c2, _, w2⟩ := DataW.trod_string Tryz.underlying9 f2
    obtain ⟨k3, c3, _, w3⟩ := DataW.trod_int Tryz.underlying2 f3
    obtain ⟨s4, c4, _, w4⟩ := DataW.trod_string Tryz.underlying9 f4
    simp only [List.cons.injEq, and_true] at c0 c2 c3 c4
    subst c0 c2 c3 c4
    obtain ⟨pa, pn, pc, l, e, hI, hb, h1, h2, h3⟩ := ids_cell3 f1
    subst e
    have hroom := slice_room Tryz.underlying32 f1 (fun q hq => hw q (by
      rw [hx0]
      simp only [DataW.weights, Tryz.underlying39, List.map_cons, List.map_nil, DataW.weightsEach, List.mem_append]
      exact .inr (.inl hq)))
    rw [show Tryz.prog.bytesOf 24 = 8 from by kernel_rfl] at hroom
    have b0 := bounds_u64 w0
    have b3 := bounds_i64 w3
    exact ⟨k0, pa, pn, pc, l, s2, k3, s4, rfl, rfl, rfl, rfl, rfl, ⟨by omega, hI, hb, ⟨h1, h2, h3⟩, w2, by omega, w4⟩, hroom⟩
theorem each_mem {H : Type} {P : Program} : ∀ {ts : List TypeId} {ds : List (DataW H)} (j : Nat) {t : TypeId} {d : DataW H}, ts[j]? = some t → ds[j]? = some d → ∀ q ∈ d.weights P t, q ∈ DataW.weightsEach P ts ds
  | t0 :: ts, d0 :: ds, 0, t, d, ht, hd, q, hq => by
    cases ht; cases hd
    simp only [DataW.weightsEach, List.mem_append]
    exact .inl hq
  | t0 :: ts, d0 :: ds, j + 1, t, d, ht, hd, q, hq => by
    simp only [DataW.weightsEach, List.mem_append]
    exact .inr (each_mem j (by simpa using ht) (by simpa using hd) q hq)
  | [], _, _, _, _, ht, _, _, _ => by simp at ht
  | _ :: _, [], _, _, _, _, hd, _, _ => by simp at hd

set_option maxRecDepth 100000 in
theorem things_arg {H : Type} {enc : TypeId × Value → H} {W : World} {base : Nat} {v : Value} {d : DataW H} {ps : List MemPlace} (hok : Value.okWide Tryz.prog W .any base 22 v)
    (h : DataW.Trod enc Tryz.prog W 0 (fun _ => true) true 22 v d ps) (hw : ∀ q ∈ d.weights Tryz.prog 22, q ≤ reachBytes) :
    ∃ a n cap E, v = .slice a n cap ∧ Things W a n E := by
  obtain ⟨a, n, cap, rfl⟩ := okWide_slice Tryz.underlying22 hok
  obtain ⟨fuel, hf⟩ := h
  have x0 : Th := ⟨0, none, 0, 0, [], none, 0, 0, [], 0, none, 0, 0, [], ⟨#[]⟩, 0, ⟨#[]⟩⟩
  rcases Deep.open_slice Tryz.underlying22 hf with ⟨hcs, _⟩ | ⟨x, len, c, m, j, D, Pl, hcs, _, hl, hmx, hm, hx, hel⟩
  · simp [Value.cells] at hcs
    obtain ⟨rfl, rfl, rfl⟩ := hcs
    exact ⟨none, 0, 0, fun _ => x0, rfl, ⟨fun h0 => by omega, fun i hi => by omega⟩⟩
  · simp [Value.cells] at hcs
    obtain ⟨rfl, rfl, rfl⟩ := hcs
    simp only [if_true] at hm
    have hd : d = .slice ((List.range n).map D) ((List.range (m - n)).map fun j => D (n + j)) := congrArg Prod.fst hx
    have hcell : ∀ i, i < n → ∃ o : Th, (∀ (j : Nat) u, o.vals[j]? = some u → W.cell? (x.add (i * 8 + j)) = some u) ∧ ThAt W o := by
      intro i hi
      obtain ⟨cs', hc1, hc2⟩ := hel i (by omega)
      have hwi : ∀ q ∈ (D i).weights Tryz.prog 41, q ≤ reachBytes := fun q hq => hw q (by
        rw [hd]
        simp only [DataW.weights, Tryz.underlying22]
        exact List.mem_cons_of_mem _ (List.mem_append.2 (.inl (weightsAll_mem (List.mem_map.2 ⟨i, List.mem_range.2 hi, rfl⟩) _ hq))))
      rw [show Tryz.prog.cellsOf 41 = 8 from by kernel_rfl] at hc1
      obtain ⟨xs, fu, _, hx0, _, hxl, hfl⟩ := DataW.trod_struct Tryz.underlying41 hc2
      obtain ⟨_, hlen2, hget⟩ := World.cells?_some hc1
      have e3 : Tryz.prog.cellsOf 3 = 1 := by kernel_rfl
      have e9 : Tryz.prog.cellsOf 36 = 1 := by kernel_rfl
      have e22 : Tryz.prog.cellsOf 37 = 1 := by kernel_rfl
      have e5 : Tryz.prog.cellsOf 39 = 5 := by kernel_rfl
      match cs', hlen2, xs, hxl with
      | [z0, z1, z2, z3, z4, z5, z6, z7], _, [y0, y1, y2, y3], _ =>
        have hdi : D i = .agg [y0.1, y1.1, y2.1, y3.1] := congrArg Prod.fst hx0
        have f0 : DataW.trod enc Tryz.prog W 0 (fun _ => true) true fu 3 [z0] = some y0 := by simpa [e3] using hfl 0 _ rfl
        have f1 : DataW.trod enc Tryz.prog W 0 (fun _ => true) true fu 36 [z1] = some y1 := by simpa [e9] using hfl 1 _ rfl
        have f2 : DataW.trod enc Tryz.prog W 0 (fun _ => true) true fu 37 [z2] = some y2 := by simpa [e22] using hfl 2 _ rfl
        have f3 : DataW.trod enc Tryz.prog W 0 (fun _ => true) true fu 39 [z3, z4, z5, z6, z7] = some y3 := by simpa [e5] using hfl 3 _ rfl
        have hwe : ∀ q ∈ DataW.weightsEach Tryz.prog [3, 36, 37, 39] [y0.1, y1.1, y2.1, y3.1], q ≤ reachBytes := fun q hq => hwi q (by
          rw [hdi]
          simp only [DataW.weights, Tryz.underlying41]
          exact hq)
        obtain ⟨k0, c0, _, w0⟩ := DataW.trod_int Tryz.underlying3 f0
        simp only [List.cons.injEq, and_true] at c0
        subst c0
        obtain ⟨ba, bn, bc, bl, rfl, hb, _, hbnil, _⟩ := bytes_cell f1
        obtain ⟨ta, tn, tc, tl, rfl, ht, hfd, _, htnil⟩ := entries_cell f2
        have r1 := slice_room Tryz.underlying36 f1 (fun q hq => hwe q (each_mem 1 rfl rfl q hq))
        have r2 := slice_room Tryz.underlying37 f2 (fun q hq => hwe q (each_mem 2 rfl rfl q hq))
        rw [show Tryz.prog.bytesOf 5 = 1 from by kernel_rfl, Nat.mul_one] at r1
        rw [show Tryz.prog.bytesOf 127 = 32 from by kernel_rfl] at r2
        obtain ⟨t, pa, pn, pc, l, au, dd, tx, rfl, rfl, rfl, rfl, rfl, hC, r3⟩ := commit_cells f3 (fun q hq => hwe q (each_mem 3 rfl rfl q hq))
        refine ⟨⟨k0, ba, bn, bc, bl, ta, tn, tc, tl, t, pa, pn, pc, l, au, dd, tx⟩, fun j u hu => ?_, ⟨hb, hbnil, r1, ht, hfd, r2, htnil, hC, r3⟩⟩
        have hj : j < 8 := by have := (Array.getElem?_eq_some_iff.1 hu).1; simpa [Th.vals] using this
        have g := hget j (by simpa using hj)
        rw [Deep.add_add] at g
        rw [g]
        rw [← hu]
        simp [Th.vals]
    haveI : Inhabited Th := ⟨x0⟩
    obtain ⟨g, hg⟩ := Deep.choose_lt hcell
    refine ⟨some x, n, cap, g, rfl, fun h0 => ?_, fun k hk => (hg k hk).2⟩
    obtain ⟨b, off, spot⟩ := x
    have hc := (hg 0 h0).1 0 _ rfl
    have hspot : spot = none := by simpa [Addr.add] using World.cell?_spot hc
    subst hspot
    refine ⟨b, off, rfl, fun k hk j u hu => ?_⟩
    have := (hg k hk).1 j u hu
    rw [Addr.add_lit, ← Nat.add_assoc] at this
    exact this
end Go.Proofs.YthalpnpnbclipaaGreat

/- Proved here: for every list of things and every id the law StorePlays (a store holds what was put, under the document's ids, and holds it when its disk is opened again) returns true, and its arguments read as before. No condition. -/
namespace Go.Proofs.YthalpnpnbclipaaGreat
open Go.RowKit
open Go.ChangeShapes Go.WideShapes Go.ChangeAt

theorem own : ownKnob Tryz.prog.godebug = none := by kernel_rfl
theorem laidOut : laidOutB Tryz.prog = true := by kernel_rfl

set_option maxRecDepth 100000 in
theorem storePlays_lifted (os : Os) (started : os.Started) (H : Type) (enc : TypeId × Value → H) :
    ReturnsInHanded {} Tryz.checked os 3 .any (Rows.storePlaysSpec.pre6 enc Tryz.prog Tryz.f3 Rows.storePlaysRow.domain false) (Rows.storePlaysSpec.post enc Tryz.prog Tryz.f3 false true false false) := by
  refine returnsInHanded_of_change_sized (C := Tryz.checked) own started (by kernel_rfl) Tryz.func3
    (ChangeSpec.witness6 (enc := enc) (C := Tryz.checked) false ⟨#[], #[.slice none 0 0, .int .u64 0], []⟩ 8 (by kernel_rfl) (by kernel_rfl) (by kernel_rfl) (by kernel_rfl)) ?_
  intro W base args ds gs before hval0 hW _ hsz0 _
  have hsz : (DataW.weightsEach Tryz.prog (Tryz.f3.params.toList ++ Rows.storePlaysSpec.plain.varTypes Tryz.prog) (ds ++ gs)).all (· ≤ reachBytes) = true := hsz0
  have hval : ∀ (j : Nat) t v, Tryz.f3.params[j]? = some t → args[j]? = some v → Value.okWide Tryz.prog W .any base t v := hval0
  have hW' := hW
  obtain ⟨p, q, hA0, hV, rfl, _, _⟩ := hW
  have hA : DataW.TrodAll enc Tryz.prog W 0 (fun _ => true) true Tryz.f3.params.toList args.toList ds p := hA0
  rw [Tryz.params3] at hA hval hsz
  obtain ⟨v0, vs0, d0, ds0, p0, q0, hargs, rfl, rfl, h0, r0⟩ := trodAll_cons hA
  obtain ⟨v1, vs1, d1, ds1, p1, q1, rfl, rfl, rfl, h1, r1⟩ := trodAll_cons r0
  obtain ⟨rfl, rfl, rfl⟩ := trodAll_nil r1
  obtain rfl : args = #[v0, v1] := by cases args; simp_all
  obtain ⟨rfl, rfl⟩ := trodVars_none hV
  have k0 := h0
  have lt0 : ∀ x ∈ p0, x.block < W.heap.size := by obtain ⟨m, hm⟩ := k0; exact DataW.trod_lt m _ _ _ hm
  obtain ⟨a1, rfl, rfl, rfl, w1⟩ := open_int Tryz.underlying24 (hval 1 24 v1 rfl rfl) h1
  obtain ⟨a0, n0, cap0, E0, rfl, hl0⟩ := things_arg (hval 0 22 v0 rfl rfl) h0 (fun q hq => by
    have := List.all_eq_true.1 hsz q (DataW.weights_mem_each (j := 0) rfl rfl q hq)
    simpa using this)
  have b1 := bounds_u64 w1
  clear hA0 hval0 hsz0 hsz
  refine (storePlays_walk W a0 n0 cap0 E0 hl0 a1 (by omega) (by omega)).mono fun e W' ⟨he, bel⟩ => ?_
  subst he
  exact ⟨_, rfl, _, _, _, [], _, [], hW', trodAll_mk1 (shut_bool Tryz.underlying4 _), trodAll_cons_mk (Below.trod laidOut (by kernel_rfl) (of_decide_eq_true (by kernel_rfl)) k0 bel lt0) (trodAll_cons_mk (shut_int Tryz.underlying24 w1) trodAll_mk0), rfl, bel.frame _, fun h => by cases h⟩

theorem storePlays_holds : Rows.StorePlaysSaid :=
  OpenClaim.holds_of_wide 3 Tryz.f3 rfl rfl rfl rfl rfl rfl rfl ⟨rfl, rfl, rfl, rfl, rfl⟩ rfl rfl rfl rfl rfl (by kernel_rfl) Tryz.func3 (by kernel_rfl)
    (of_decide_eq_true (by kernel_rfl)) (by unfold Func.isWrapper; first | (rw [if_pos (by decide +kernel)]; kernel_rfl) | (rw [if_neg (by decide +kernel)]; exact ⟨rfl, rfl⟩))
    (fun os started H enc _ => storePlays_lifted os started H enc)
#print axioms storePlays_holds

end Go.Proofs.YthalpnpnbclipaaGreat
