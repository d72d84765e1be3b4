import Derived.Test.YtdjodigimhgklaaGreatDoorMD15
import Derived.ProofKit
import Derived.OpenShut
import Derived.ShutString
import Derived.ChangeOld
import Derived.SizedLaws
import Derived.Deep.Slices
/- Slices of pairs, and bytes, that came in, opened. -/
namespace Go.Proofs.YtdjodigimhgklaaGreatDoor
open Go.ChangeShapes Go.WideShapes Go.ChangeAt Go.RowKit

/-- a slice of pairs, as it came in -/
structure PrIn (W : World) (a : Option Addr) (n c : Nat) (l : List Pr) : Prop where
  prs : Prs W a n l
  ok : PrOk l
  nil : a = none → n = 0 ∧ c = 0
  cap : n ≤ c
set_option maxRecDepth 100000 in
theorem pairs_cell {H : Type} {enc : TypeId × Value → H} {W : World} {fuel : Nat} {v : Value} {x0 : DataW H × List MemPlace} (hf : DataW.trod enc Tryz.prog W 0 (fun _ => true) true fuel 36 [v] = some x0) :
    ∃ a n cap l, v = .slice a n cap ∧ PrIn W a n cap l := by
  rcases Deep.open_slice Tryz.underlying36 hf with ⟨hcs, _⟩ | ⟨x, n, cap, m, j, D, Pl, hcs, _, hl, hmx, hm, hx, hel⟩
  · simp only [List.cons.injEq, and_true] at hcs
    subst hcs
    exact ⟨none, 0, 0, [], rfl, ⟨rfl, fun h0 => by omega⟩, PrOk.nil, fun _ => ⟨rfl, rfl⟩, Nat.le_refl _⟩
  · simp only [List.cons.injEq, and_true] at hcs
    subst hcs
    simp only [if_true] at hm
    have hcell : ∀ i, i < n → ∃ o : Pr, W.cell? (x.add (i * 2)) = some (.int .u64 (o.1 : Int)) ∧ W.cell? (x.add (i * 2 + 1)) = some (.int .u64 (o.2 : Int)) ∧ o.1 < 18446744073709551616 ∧ o.2 < 18446744073709551616 := by
      intro i hi
      obtain ⟨cs', hc1, hc2⟩ := hel i (by omega)
      rw [show Tryz.prog.cellsOf 39 = 2 from by kernel_rfl] at hc1
      obtain ⟨xs, fu, _, _, _, hxl, hfl⟩ := DataW.trod_struct Tryz.underlying39 hc2
      obtain ⟨_, hlen2, hget⟩ := World.cells?_some hc1
      have e39 : Tryz.prog.cellsOf 23 = 1 := by kernel_rfl
      match cs', hlen2, xs, hxl with
      | [z0, z1], _, [y0, y1], _ =>
        have f0 : DataW.trod enc Tryz.prog W 0 (fun _ => true) true fu 23 [z0] = some y0 := by simpa [e39] using hfl 0 _ rfl
        have f1 : DataW.trod enc Tryz.prog W 0 (fun _ => true) true fu 23 [z1] = some y1 := by simpa [e39] using hfl 1 _ rfl
        obtain ⟨k0, c0, _, w0⟩ := DataW.trod_int Tryz.underlying23 f0
        obtain ⟨k1, c1, _, w1⟩ := DataW.trod_int Tryz.underlying23 f1
        simp only [List.cons.injEq, and_true] at c0 c1
        subst c0 c1
        have g0 := hget 0 (by simp)
        have g1 := hget 1 (by simp)
        rw [Deep.add_add] at g0 g1
        have b0 := bounds_u64 w0
        have b1 := bounds_u64 w1
        refine ⟨(k0.toNat, k1.toNat), ?_, ?_, by show k0.toNat < _; omega, by show k1.toNat < _; omega⟩
        · have e : ((k0.toNat : Nat) : Int) = k0 := by omega
          show _ = some (Value.int .u64 ((k0.toNat : Nat) : Int))
          rw [e]
          simpa using g0
        · have e : ((k1.toNat : Nat) : Int) = k1 := by omega
          show _ = some (Value.int .u64 ((k1.toNat : Nat) : Int))
          rw [e]
          simpa using g1
    obtain ⟨g, hg⟩ := Deep.choose_lt hcell
    have hgy : ∀ (i : Nat) y, ((List.range n).map g)[i]? = some y → i < n ∧ y = g i := fun i y hy => by
      have hi : i < n := by have := (List.getElem?_eq_some_iff.1 hy).1; simpa using this
      rw [List.getElem?_map, List.getElem?_range hi] at hy
      exact ⟨hi, (Option.some.inj hy).symm⟩
    refine ⟨some x, n, cap, (List.range n).map g, rfl, ⟨by simp, fun h0 => ?_⟩, fun p hp => ?_, (fun h => by cases h), hl⟩
    · obtain ⟨b, off, spot⟩ := x
      have hc := (hg 0 h0).1
      have hspot : spot = none := by simpa [Addr.add] using World.cell?_spot hc
      subst hspot
      refine ⟨b, off, rfl, fun i y hy => ?_⟩
      obtain ⟨hi, rfl⟩ := hgy i y hy
      obtain ⟨e1, e2, _⟩ := hg i hi
      rw [Addr.add_lit] at e1 e2
      rw [← Nat.add_assoc] at e2
      exact ⟨e1, e2⟩
    · obtain ⟨i, hi, rfl⟩ := List.mem_map.1 hp
      exact (hg i (List.mem_range.1 hi)).2.2
set_option maxRecDepth 100000 in
theorem pairs_arg {H : Type} {enc : TypeId × Value → H} {W : World} {base : Nat} {v : Value} {d : DataW H} {ps : List MemPlace} (hok : Value.okWide Tryz.prog W .any base 36 v)
    (h : DataW.Trod enc Tryz.prog W 0 (fun _ => true) true 36 v d ps) :
    ∃ a n cap l, v = .slice a n cap ∧ PrIn W a n cap l := by
  obtain ⟨a, n, cap, rfl⟩ := okWide_slice Tryz.underlying36 hok
  obtain ⟨fuel, hf⟩ := h
  simp only [Value.cells] at hf
  exact pairs_cell hf
/-- bytes, as they came in -/
structure ByIn (W : World) (a : Option Addr) (n c : Nat) (l : List UInt8) : Prop where
  by_ : Bytes W a n l
  nil : a = none → n = 0 ∧ c = 0
  cap : n ≤ c
  sml : c ≤ maxLen
set_option maxRecDepth 100000 in
theorem bytes_cell {H : Type} {enc : TypeId × Value → H} {W : World} {fuel : Nat} {v : Value} {x0 : DataW H × List MemPlace} (hf : DataW.trod enc Tryz.prog W 0 (fun _ => true) true fuel 33 [v] = some x0) :
    ∃ a n cap l, v = .slice a n cap ∧ ByIn W a n cap l := by
  rcases open_ints Tryz.underlying33 Tryz.underlying5 (by kernel_rfl) hf with ⟨hcs, _⟩ | ⟨x, l, c, zs, hcs, _, hl, hm, hz, hx, hcell, hwz⟩
  · simp only [List.cons.injEq, and_true] at hcs
    subst hcs
    exact ⟨none, 0, 0, [], rfl, ⟨rfl, fun h0 => by omega⟩, fun _ => ⟨rfl, rfl⟩, Nat.le_refl _, by unfold maxLen; omega⟩
  · simp only [List.cons.injEq, and_true] at hcs
    subst hcs
    have hz' : l ≤ zs.length := by simp only [if_true] at hz; omega
    refine ⟨some x, l, c, (zs.take l).map fun z => UInt8.ofNat z.toNat, rfl, ⟨by simp; omega, fun h0 => ?_⟩, (fun h => by cases h), hl, hm⟩
    obtain ⟨b, off, spot⟩ := x
    have hc := hcell 0 (by omega)
    have hspot : spot = none := by simpa [Addr.add] using World.cell?_spot hc
    subst hspot
    refine ⟨b, off, rfl, fun i hi => ?_⟩
    have hci := hcell i (by omega)
    rw [Addr.add_lit] at hci
    rw [hci]
    have hb : 0 ≤ zs.getD i 0 ∧ zs.getD i 0 ≤ 255 := by
      rw [List.getD_eq_getElem?_getD]
      exact range_u8 hwz i
    have e : bt ((zs.take l).map (fun z => UInt8.ofNat z.toNat)) i = zs.getD i 0 := by
      unfold bt
      have e1 : ((zs.take l).map (fun z => UInt8.ofNat z.toNat)).getD i 0 = UInt8.ofNat (zs.getD i 0).toNat := by
        simp [List.getD, hi, show i < zs.length by omega]
      rw [e1, UInt8.toNat_ofNat']
      omega
    rw [e]
set_option maxRecDepth 100000 in
theorem bytes_arg {H : Type} {enc : TypeId × Value → H} {W : World} {base : Nat} {v : Value} {d : DataW H} {ps : List MemPlace} (hok : Value.okWide Tryz.prog W .any base 33 v)
    (h : DataW.Trod enc Tryz.prog W 0 (fun _ => true) true 33 v d ps) :
    ∃ a n cap l, v = .slice a n cap ∧ ByIn W a n cap l := by
  obtain ⟨a, n, cap, rfl⟩ := okWide_slice Tryz.underlying33 hok
  obtain ⟨fuel, hf⟩ := h
  simp only [Value.cells] at hf
  exact bytes_cell hf
end Go.Proofs.YtdjodigimhgklaaGreatDoor
