/- A list of acts that came in, opened. -/
import Derived.Test.YtjbifbfhlmdlbaaJArg
namespace Go.Proofs.Ytjbifbfhlmdlbaa
open Go.ChangeShapes Go.WideShapes Go.ChangeAt Go.RowKit

/-- an act: its payload's slice and bytes, whether and where the disk is cut, whether it is an Open -/
structure GAct where
  e : El
  cut : Bool
  after : Int
  op : Bool
deriving Inhabited

/-- a slice of n acts that came in -/
def Acts (W : World) (a : Option Addr) (n : Nat) (A : Nat → GAct) : Prop :=
  (0 < n → ∃ b off, a = some ⟨b, off, none⟩ ∧ ∀ k, k < n → W.cell? ⟨b, off + k * 4, none⟩ = some (.slice (A k).e.x (A k).e.m (A k).e.c) ∧ W.cell? ⟨b, off + k * 4 + 1, none⟩ = some (.bool (A k).cut) ∧
      W.cell? ⟨b, off + k * 4 + 2, none⟩ = some (.int .i64 (A k).after) ∧ W.cell? ⟨b, off + k * 4 + 3, none⟩ = some (.bool (A k).op)) ∧
    ∀ k, k < n → Bytes W (A k).e.x (A k).e.m (A k).e.l ∧ (A k).e.m ≤ (A k).e.c ∧ ((A k).e.x = none → (A k).e.m = 0 ∧ (A k).e.c = 0) ∧ (A k).e.m ≤ maxLen ∧ (A k).after ≤ 9223372036854775807

set_option maxRecDepth 20000 in
theorem acts_arg {H : Type} {enc : TypeId × Value → H} {W : World} {base : Nat} {v : Value} {d : DataW H} {ps : List MemPlace} (hok : Value.okWide Try.prog W .any base 49 v)
    (h : DataW.Trod enc Try.prog W 0 (fun _ => true) true 49 v d ps) :
    ∃ a n cap A, v = .slice a n cap ∧ Acts W a n A ∧ n ≤ maxLen := by
  obtain ⟨a, n, cap, rfl⟩ := okWide_slice Try.underlying49 hok
  obtain ⟨fuel, hf⟩ := h
  rcases Deep.open_slice Try.underlying49 hf with ⟨hcs, _⟩ | ⟨x, len, c, m, j, D, Pl, hcs, _, hl, hmx, hm, hx, hel⟩
  · simp [Value.cells] at hcs
    obtain ⟨rfl, rfl, rfl⟩ := hcs
    exact ⟨none, 0, 0, fun _ => default, rfl, ⟨fun h0 => by omega, fun i hi => by omega⟩, Nat.zero_le _⟩
  · simp [Value.cells] at hcs
    obtain ⟨rfl, rfl, rfl⟩ := hcs
    simp only [if_true] at hm
    have hcell : ∀ i, i < n → ∃ p : GAct, (W.cell? (x.add (i * 4)) = some (.slice p.e.x p.e.m p.e.c) ∧ W.cell? (x.add (i * 4 + 1)) = some (.bool p.cut) ∧ W.cell? (x.add (i * 4 + 2)) = some (.int .i64 p.after) ∧ W.cell? (x.add (i * 4 + 3)) = some (.bool p.op)) ∧
        Bytes W p.e.x p.e.m p.e.l ∧ p.e.m ≤ p.e.c ∧ (p.e.x = none → p.e.m = 0 ∧ p.e.c = 0) ∧ p.e.m ≤ maxLen ∧ p.after ≤ 9223372036854775807 := by
      intro i hi
      obtain ⟨cs', hc1, hc2⟩ := hel i (by omega)
      rw [show Try.prog.cellsOf 51 = 4 from by kernel_rfl] at hc1
      obtain ⟨xs, fu, _, _, _, hxl, hfl⟩ := DataW.trod_struct Try.underlying51 hc2
      obtain ⟨_, hlen2, hget⟩ := World.cells?_some hc1
      have e3 : Try.prog.cellsOf 3 = 1 := by kernel_rfl
      have e4 : Try.prog.cellsOf 4 = 1 := by kernel_rfl
      have e22 : Try.prog.cellsOf 22 = 1 := by kernel_rfl
      match cs', hlen2, xs, hxl with
      | [z0, z1, z2, z3], _, [y0, y1, y2, y3], _ =>
        have f0 : DataW.trod enc Try.prog W 0 (fun _ => true) true fu 22 [z0] = some y0 := by simpa [e22] using hfl 0 _ rfl
        have f1 : DataW.trod enc Try.prog W 0 (fun _ => true) true fu 4 [z1] = some y1 := by simpa [e4] using hfl 1 _ rfl
        have f2 : DataW.trod enc Try.prog W 0 (fun _ => true) true fu 3 [z2] = some y2 := by simpa [e3] using hfl 2 _ rfl
        have f3 : DataW.trod enc Try.prog W 0 (fun _ => true) true fu 4 [z3] = some y3 := by simpa [e4] using hfl 3 _ rfl
        obtain ⟨a0, n0, cap0, l0, c0, hb0, hc0, hn0, hm0⟩ := bytes_cell f0
        obtain ⟨b1, c1, _⟩ := DataW.trod_bool Try.underlying4 f1
        obtain ⟨k2, c2, _, w2⟩ := DataW.trod_int Try.underlying3 f2
        obtain ⟨b3, c3, _⟩ := DataW.trod_bool Try.underlying4 f3
        simp only [List.cons.injEq, and_true] at c1 c2 c3
        subst c0 c1 c2 c3
        have g0 := hget 0 (by omega)
        have g1 := hget 1 (by omega)
        have g2 := hget 2 (by omega)
        have g3 := hget 3 (by omega)
        rw [Deep.add_add] at g0 g1 g2 g3
        exact ⟨⟨⟨a0, n0, cap0, l0⟩, b1, k2, b3⟩, ⟨by simpa using g0, by simpa using g1, by simpa using g2, by simpa using g3⟩, hb0, hc0, hn0, hm0, (bounds_i64 w2).2⟩
    obtain ⟨A, hA⟩ := Deep.choose_lt hcell
    refine ⟨some x, n, cap, A, rfl, ⟨fun h0 => ?_, fun i hi => (hA i hi).2⟩, by omega⟩
    obtain ⟨b, off, spot⟩ := x
    have hc := (hA 0 h0).1.1
    have hspot : spot = none := by simpa [Addr.add] using World.cell?_spot hc
    subst hspot
    refine ⟨b, off, rfl, fun i hi => ?_⟩
    obtain ⟨h1, h2, h3, h4⟩ := (hA i hi).1
    rw [Addr.add_lit] at h1 h2 h3 h4
    exact ⟨h1, by rw [Nat.add_assoc]; exact h2, by rw [Nat.add_assoc]; exact h3, by rw [Nat.add_assoc]; exact h4⟩

end Go.Proofs.Ytjbifbfhlmdlbaa
