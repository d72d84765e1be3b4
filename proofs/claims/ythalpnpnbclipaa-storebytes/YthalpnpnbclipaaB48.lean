import Derived.Test.YthalpnpnbclipaaB47
import Derived.ProofKit
import Derived.OpenShut
import Derived.ShutString
import Derived.ChangeOld
import Derived.SizedLaws
import Derived.Deep.Slices
import Derived.Test.YthalpnpnbclipaaB40
import Derived.Test.YthalpnpnbclipaaB30
/- A slice of slices of bytes that came in, opened. -/
namespace Go.Proofs.Ythalpnpnbclipaa
open Go.ChangeShapes Go.WideShapes Go.ChangeAt Go.RowKit

theorem bytes_cell {H : Type} {enc : TypeId × Value → H} {W : World} {fuel : Nat} {v : Value} {x : DataW H × List MemPlace} (hf : DataW.trod enc Try.prog W 0 (fun _ => true) true fuel 30 [v] = some x) :
    ∃ a n cap l, v = .slice a n cap ∧ Bytes W a n l ∧ n ≤ cap ∧ (a = none → n = 0 ∧ cap = 0) ∧ n ≤ maxLen := by
  rcases open_ints Try.underlying30 Try.underlying5 (by kernel_rfl) hf with ⟨hcs, _⟩ | ⟨x, n, cap, zs, hcs, _, hl, hm, hz, hx, hcell, hwz⟩
  · simp only [List.cons.injEq, and_true] at hcs
    subst hcs
    exact ⟨none, 0, 0, [], rfl, ⟨rfl, fun h0 => by omega⟩, Nat.le_refl _, fun _ => ⟨rfl, rfl⟩, Nat.zero_le _⟩
  · simp only [List.cons.injEq, and_true] at hcs
    subst hcs
    simp only [if_true] at hz
    refine ⟨some x, n, cap, (zs.take n).map (fun z => UInt8.ofNat z.toNat), rfl, ⟨by simp; omega, fun h0 => ?_⟩, hl, (fun h => by cases h), by omega⟩
    obtain ⟨b, off, spot⟩ := x
    have hc := hcell 0 (by omega)
    have hspot : spot = none := by simpa [Addr.add] using World.cell?_spot hc
    subst hspot
    refine ⟨b, off, rfl, fun i hi => ?_⟩
    have hci := hcell i (by omega)
    rw [Addr.add_lit] at hci
    rw [hci]
    have hb : 0 ≤ zs.getD i 0 ∧ zs.getD i 0 ≤ 255 := by
      rw [List.getD_eq_getElem?_getD]
      exact range_u8 hwz i
    have e : bt ((zs.take n).map (fun z => UInt8.ofNat z.toNat)) i = zs.getD i 0 := by
      unfold bt
      have e1 : ((zs.take n).map (fun z => UInt8.ofNat z.toNat)).getD i 0 = UInt8.ofNat (zs.getD i 0).toNat := by
        simp [List.getD, hi, show i < zs.length by omega]
      rw [e1, UInt8.toNat_ofNat']
      omega
    rw [e]

/-- what an element of such a slice is -/
structure El where
  x : Option Addr
  m : Nat
  c : Nat
  l : List UInt8
deriving Inhabited
/-- a slice of n slices of bytes that came in -/
def Lists (W : World) (a : Option Addr) (n : Nat) (E : Nat → El) : Prop :=
  (0 < n → ∃ b off, a = some ⟨b, off, none⟩ ∧ ∀ k, k < n → W.cell? ⟨b, off + k, none⟩ = some (.slice (E k).x (E k).m (E k).c)) ∧
    ∀ k, k < n → Bytes W (E k).x (E k).m (E k).l ∧ (E k).m ≤ (E k).c ∧ ((E k).x = none → (E k).m = 0 ∧ (E k).c = 0) ∧ (E k).m ≤ maxLen

set_option maxRecDepth 20000 in
theorem lists_arg {H : Type} {enc : TypeId × Value → H} {W : World} {base : Nat} {v : Value} {d : DataW H} {ps : List MemPlace} (hok : Value.okWide Try.prog W .any base 22 v)
    (h : DataW.Trod enc Try.prog W 0 (fun _ => true) true 22 v d ps) :
    ∃ a n cap E, v = .slice a n cap ∧ Lists W a n E ∧ n ≤ maxLen := by
  obtain ⟨a, n, cap, rfl⟩ := okWide_slice Try.underlying22 hok
  obtain ⟨fuel, hf⟩ := h
  rcases Deep.open_slice Try.underlying22 hf with ⟨hcs, _⟩ | ⟨x, len, c, m, j, D, Pl, hcs, _, hl, hmx, hm, hx, hel⟩
  · simp [Value.cells] at hcs
    obtain ⟨rfl, rfl, rfl⟩ := hcs
    exact ⟨none, 0, 0, fun _ => ⟨none, 0, 0, []⟩, rfl, ⟨fun h0 => by omega, fun i hi => by omega⟩, Nat.zero_le _⟩
  · simp [Value.cells] at hcs
    obtain ⟨rfl, rfl, rfl⟩ := hcs
    simp only [if_true] at hm
    have hcell : ∀ i, i < n → ∃ p : El, W.cell? (x.add i) = some (.slice p.x p.m p.c) ∧ Bytes W p.x p.m p.l ∧ p.m ≤ p.c ∧ (p.x = none → p.m = 0 ∧ p.c = 0) ∧ p.m ≤ maxLen := by
      intro i hi
      obtain ⟨cs', hc1, hc2⟩ := hel i (by omega)
      rw [show Try.prog.cellsOf 30 = 1 from by kernel_rfl] at hc1
      obtain ⟨_, hlen2, hget⟩ := World.cells?_some hc1
      match cs', hlen2 with
      | [c0], _ =>
        have g0 := hget 0 (by omega)
        rw [Deep.add_add] at g0
        obtain ⟨a', n', cap', l', rfl, h1, h2, h3, h4⟩ := bytes_cell hc2
        exact ⟨⟨a', n', cap', l'⟩, by simpa using g0, h1, h2, h3, h4⟩
    obtain ⟨E, hE⟩ := Deep.choose_lt hcell
    refine ⟨some x, n, cap, E, rfl, ⟨fun h0 => ?_, fun i hi => (hE i hi).2⟩, by omega⟩
    obtain ⟨b, off, spot⟩ := x
    have hc := (hE 0 h0).1
    have hspot : spot = none := by simpa [Addr.add] using World.cell?_spot hc
    subst hspot
    refine ⟨b, off, rfl, fun i hi => ?_⟩
    have := (hE i hi).1
    rw [Addr.add_lit] at this
    exact this

end Go.Proofs.Ythalpnpnbclipaa

/- A list of slices of bytes that a law itself makes, one behind the other; bytes handed in, copied. -/
namespace Go.Proofs.Ythalpnpnbclipaa
open Go.RowKit

/-- v is a row of slices that lead to these lists; their bytes lie below B -/
def Done (B : Nat) (w : World) (v : Value) (ds : List (List UInt8)) : Prop :=
  ∃ xs, w.ownsRow 0 30 1 v ds.length xs ∧ (∀ g, v.ownBlock = some g → B ≤ g) ∧ ∀ i, i < ds.length → ∃ x m c, xs[i]? = some (.slice x m c) ∧ Bytes w x m (rc ds i) ∧ (0 < m → ∀ y, x = some y → y.block < B)

theorem Done.nil (B : Nat) (w : World) : Done B w (.slice none 0 0) [] := ⟨[], World.ownsRow_nil _ _ _ _, by simp [Value.ownBlock], fun i hi => by simp at hi⟩

theorem Done.turn {B : Nat} {w w' : World} {v : Value} {ds : List (List UInt8)} {Q : Nat → Prop} (h : Done B w v ds) (hT : Turn Q w w') (hQ : ∀ k, Q k → B ≤ k) (hv : ∀ g, v.ownBlock = some g → ¬ Q g) : Done B w' v ds := by
  obtain ⟨xs, h1, h2, h3⟩ := h
  refine ⟨xs, ownsRow_move' h1 (fun g hg => hT.block g (h1.lt g hg).2 (hv g hg)), h2, fun i hi => ?_⟩
  obtain ⟨x, m, c, e, hb, hx⟩ := h3 i hi
  exact ⟨x, m, c, e, hT.bytes hb (fun h0 y hy hq => by have := hx h0 y hy; have := hQ _ hq; omega), hx⟩
theorem Done.below {B : Nat} {w w' : World} {v : Value} {ds : List (List UInt8)} (h : Done B w v ds) (hB : Below w.heap.size w w') : Done B w' v ds :=
  h.turn (Turn.of_below (fun _ => False) hB) (fun _ h => h.elim) (fun _ _ => id)

theorem Done.slices {B : Nat} {w : World} {a : Option Addr} {n c : Nat} {ds : List (List UInt8)} (h : Done B w (.slice a n c) ds) : Slices w a n ds ∧ n = ds.length := by
  obtain ⟨xs, h1, h2, h3⟩ := h
  rcases h1.2 with ⟨e, h0⟩ | ⟨g, cap, cur, e, _⟩
  · cases e
    exact ⟨⟨h0, fun k hk => by omega⟩, h0.symm⟩
  · cases e
    refine ⟨⟨rfl, fun k hk => ?_⟩, rfl⟩
    obtain ⟨x, m, c', e, hb, _⟩ := h3 k hk
    refine ⟨g, 0, x, m, c', rfl, ?_, hb⟩
    rw [Nat.zero_add, h1.cellAt k (by omega)]
    exact e

/-- one list more -/
theorem Done.push {B : Nat} {w w' : World} {v v' : Value} {ds : List (List UInt8)} {xs : List Value} {x : Option Addr} {m c : Nat} {l : List UInt8} (h1 : w.ownsRow 0 30 1 v ds.length xs) (h2 : ∀ g, v.ownBlock = some g → B ≤ g)
    (h3 : ∀ i, i < ds.length → ∃ x m c, xs[i]? = some (.slice x m c) ∧ Bytes w x m (rc ds i) ∧ (0 < m → ∀ y, x = some y → y.block < B))
    (hb : Bytes w x m l) (hx : 0 < m → ∀ y, x = some y → y.block < B) (hBw : B ≤ w.heap.size) (hown : w'.ownsRow 0 30 1 v' (ds.length + 1) (xs ++ [.slice x m c])) (hg : w.grownBy w' v.ownBlock) (hat : v'.ownBlock = v.ownBlock ∨ v'.ownBlock = some w.heap.size) : Done B w' v' (ds ++ [l]) := by
  have hxl : xs.length = ds.length := by have := h1.1; omega
  have keep : ∀ {y : Option Addr} {k : Nat} {q : List UInt8}, Bytes w y k q → (0 < k → ∀ z, y = some z → z.block < B) → Bytes w' y k q := fun hy hz => ⟨hy.1, fun h0 => by
    obtain ⟨b, off, e, hc⟩ := hy.2 h0
    refine ⟨b, off, e, fun i hi => hg.cell (hc i hi) (fun e' => ?_)⟩
    have h1 := hz h0 _ e
    have h4 := h2 _ e'.symm
    simp only at h1 h4
    omega⟩
  refine ⟨xs ++ [.slice x m c], by rw [List.length_append, List.length_singleton]; exact hown, fun g hg' => ?_, fun i hi => ?_⟩
  · rcases hat with e | e
    · exact h2 g (by rw [← e]; exact hg')
    · rw [e] at hg'
      have : w.heap.size = g := by simpa using hg'
      omega
  · rw [List.length_append, List.length_singleton] at hi
    by_cases e : i = ds.length
    · subst e
      exact ⟨x, m, c, by rw [← hxl, List.getElem?_append_right (Nat.le_refl _)]; simp, by rw [rc_last]; exact keep hb hx, hx⟩
    · obtain ⟨y, k, d, e1, hy, hz⟩ := h3 i (by omega)
      exact ⟨y, k, d, by rw [List.getElem?_append_left (by omega)]; exact e1, by rw [rc_snoc _ _ _ (by omega)]; exact keep hy hz, hz⟩

/-- an empty slice just made, as a row -/
theorem empty_row (w : World) : (w.alloc (.cells #[] 5)).ownsRow 0 5 1 (.slice (some ⟨w.heap.size, 0, none⟩) 0 0) 0 [] :=
  ⟨rfl, .inr ⟨w.heap.size, 0, #[], rfl, Nat.zero_le _, World.alloc_heap_new w _, Nat.le_refl _, Nat.zero_le _, rfl, rfl⟩⟩

theorem empty_row_at (w : World) (B : Nat) (hB : B = w.heap.size) : (w.alloc (.cells #[] 5)).ownsRow 0 5 1 (.slice (some ⟨B, 0, none⟩) 0 0) 0 [] := by
  subst hB; exact empty_row w

end Go.Proofs.Ythalpnpnbclipaa
