/- A slice of slices of bytes that came in, opened. -/
import Derived.Test.YtjbifbfhlmdlbaaJHolds
import Derived.ProofKit
import Derived.OpenShut
import Derived.ShutString
import Derived.ChangeOld
import Derived.SizedLaws
import Derived.Deep.Slices
namespace Go.Proofs.Ytjbifbfhlmdlbaa
open Go.ChangeShapes Go.WideShapes Go.ChangeAt Go.RowKit

theorem bytes_cell {H : Type} {enc : TypeId × Value → H} {W : World} {fuel : Nat} {v : Value} {x : DataW H × List MemPlace} (hf : DataW.trod enc Try.prog W 0 (fun _ => true) true fuel 22 [v] = some x) :
    ∃ a n cap l, v = .slice a n cap ∧ Bytes W a n l ∧ n ≤ cap ∧ (a = none → n = 0 ∧ cap = 0) ∧ n ≤ maxLen := by
  rcases open_ints Try.underlying22 Try.underlying5 (by kernel_rfl) hf with ⟨hcs, _⟩ | ⟨x, n, cap, zs, hcs, _, hl, hm, hz, hx, hcell, hwz⟩
  · simp only [List.cons.injEq, and_true] at hcs
    subst hcs
    exact ⟨none, 0, 0, [], rfl, ⟨rfl, fun h0 => by omega⟩, Nat.le_refl _, fun _ => ⟨rfl, rfl⟩, Nat.zero_le _⟩
  · simp only [List.cons.injEq, and_true] at hcs
    subst hcs
    simp only [if_true] at hz
    refine ⟨some x, n, cap, (zs.take n).map (fun z => UInt8.ofNat z.toNat), rfl, ⟨by simp; omega, fun h0 => ?_⟩, hl, (fun h => by cases h), by omega⟩
    obtain ⟨b, off, spot⟩ := x
    have hc := hcell 0 (by omega)
    have hspot : spot = none := by simpa [Addr.add] using World.cell?_spot hc
    subst hspot
    refine ⟨b, off, rfl, fun i hi => ?_⟩
    have hci := hcell i (by omega)
    rw [Addr.add_lit] at hci
    rw [hci]
    have hb : 0 ≤ zs.getD i 0 ∧ zs.getD i 0 ≤ 255 := by
      rw [List.getD_eq_getElem?_getD]
      exact range_u8 hwz i
    have e : bt ((zs.take n).map (fun z => UInt8.ofNat z.toNat)) i = zs.getD i 0 := by
      unfold bt
      have e1 : ((zs.take n).map (fun z => UInt8.ofNat z.toNat)).getD i 0 = UInt8.ofNat (zs.getD i 0).toNat := by
        simp [List.getD, hi, show i < zs.length by omega]
      rw [e1, UInt8.toNat_ofNat']
      omega
    rw [e]

/-- what an element of such a slice is -/
structure El where
  x : Option Addr
  m : Nat
  c : Nat
  l : List UInt8
deriving Inhabited
/-- a slice of n slices of bytes that came in -/
def Lists (W : World) (a : Option Addr) (n : Nat) (E : Nat → El) : Prop :=
  (0 < n → ∃ b off, a = some ⟨b, off, none⟩ ∧ ∀ k, k < n → W.cell? ⟨b, off + k, none⟩ = some (.slice (E k).x (E k).m (E k).c)) ∧
    ∀ k, k < n → Bytes W (E k).x (E k).m (E k).l ∧ (E k).m ≤ (E k).c ∧ ((E k).x = none → (E k).m = 0 ∧ (E k).c = 0) ∧ (E k).m ≤ maxLen

theorem lists_arg {H : Type} {enc : TypeId × Value → H} {W : World} {base : Nat} {v : Value} {d : DataW H} {ps : List MemPlace} (hok : Value.okWide Try.prog W .any base 26 v)
    (h : DataW.Trod enc Try.prog W 0 (fun _ => true) true 26 v d ps) :
    ∃ a n cap E, v = .slice a n cap ∧ Lists W a n E ∧ n ≤ maxLen := by
  obtain ⟨a, n, cap, rfl⟩ := okWide_slice Try.underlying26 hok
  obtain ⟨fuel, hf⟩ := h
  rcases Deep.open_slice Try.underlying26 hf with ⟨hcs, _⟩ | ⟨x, len, c, m, j, D, Pl, hcs, _, hl, hmx, hm, hx, hel⟩
  · simp [Value.cells] at hcs
    obtain ⟨rfl, rfl, rfl⟩ := hcs
    exact ⟨none, 0, 0, fun _ => ⟨none, 0, 0, []⟩, rfl, ⟨fun h0 => by omega, fun i hi => by omega⟩, Nat.zero_le _⟩
  · simp [Value.cells] at hcs
    obtain ⟨rfl, rfl, rfl⟩ := hcs
    simp only [if_true] at hm
    have hcell : ∀ i, i < n → ∃ p : El, W.cell? (x.add i) = some (.slice p.x p.m p.c) ∧ Bytes W p.x p.m p.l ∧ p.m ≤ p.c ∧ (p.x = none → p.m = 0 ∧ p.c = 0) ∧ p.m ≤ maxLen := by
      intro i hi
      obtain ⟨cs', hc1, hc2⟩ := hel i (by omega)
      rw [show Try.prog.cellsOf 22 = 1 from by kernel_rfl] at hc1
      obtain ⟨_, hlen2, hget⟩ := World.cells?_some hc1
      match cs', hlen2 with
      | [c0], _ =>
        have g0 := hget 0 (by omega)
        rw [Deep.add_add] at g0
        obtain ⟨a', n', cap', l', rfl, h1, h2, h3, h4⟩ := bytes_cell hc2
        exact ⟨⟨a', n', cap', l'⟩, by simpa using g0, h1, h2, h3, h4⟩
    obtain ⟨E, hE⟩ := Deep.choose_lt hcell
    refine ⟨some x, n, cap, E, rfl, ⟨fun h0 => ?_, fun i hi => (hE i hi).2⟩, by omega⟩
    obtain ⟨b, off, spot⟩ := x
    have hc := (hE 0 h0).1
    have hspot : spot = none := by simpa [Addr.add] using World.cell?_spot hc
    subst hspot
    refine ⟨b, off, rfl, fun i hi => ?_⟩
    have := (hE i hi).1
    rw [Addr.add_lit] at this
    exact this

end Go.Proofs.Ytjbifbfhlmdlbaa
