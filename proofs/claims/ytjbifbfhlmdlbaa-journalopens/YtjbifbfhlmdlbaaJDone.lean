/- A list of slices of bytes that a law itself makes, one behind the other; bytes handed in, copied. -/
import Derived.Test.YtjbifbfhlmdlbaaJHolds
import Derived.Test.YtjbifbfhlmdlbaaJGood
import Derived.Test.YtjbifbfhlmdlbaaPush1
namespace Go.Proofs.Ytjbifbfhlmdlbaa
open Go.RowKit

/-- v is a row of slices that lead to these lists; their bytes lie below B -/
def Done (B : Nat) (w : World) (v : Value) (ds : List (List UInt8)) : Prop :=
  ∃ xs, w.ownsRow 0 22 1 v ds.length xs ∧ (∀ g, v.ownBlock = some g → B ≤ g) ∧ ∀ i, i < ds.length → ∃ x m c, xs[i]? = some (.slice x m c) ∧ Bytes w x m (rc ds i) ∧ (0 < m → ∀ y, x = some y → y.block < B)

theorem Done.nil (B : Nat) (w : World) : Done B w (.slice none 0 0) [] := ⟨[], World.ownsRow_nil _ _ _ _, by simp [Value.ownBlock], fun i hi => by simp at hi⟩

theorem Done.turn {B : Nat} {w w' : World} {v : Value} {ds : List (List UInt8)} {Q : Nat → Prop} (h : Done B w v ds) (hT : Turn Q w w') (hQ : ∀ k, Q k → B ≤ k) (hv : ∀ g, v.ownBlock = some g → ¬ Q g) : Done B w' v ds := by
  obtain ⟨xs, h1, h2, h3⟩ := h
  refine ⟨xs, ownsRow_move' h1 (fun g hg => hT.block g (h1.lt g hg).2 (hv g hg)), h2, fun i hi => ?_⟩
  obtain ⟨x, m, c, e, hb, hx⟩ := h3 i hi
  exact ⟨x, m, c, e, hT.bytes hb (fun h0 y hy hq => by have := hx h0 y hy; have := hQ _ hq; omega), hx⟩
theorem Done.below {B : Nat} {w w' : World} {v : Value} {ds : List (List UInt8)} (h : Done B w v ds) (hB : Below w.heap.size w w') : Done B w' v ds :=
  h.turn (Turn.of_below (fun _ => False) hB) (fun _ h => h.elim) (fun _ _ => id)

theorem Done.slices {B : Nat} {w : World} {a : Option Addr} {n c : Nat} {ds : List (List UInt8)} (h : Done B w (.slice a n c) ds) : Slices w a n ds ∧ n = ds.length := by
  obtain ⟨xs, h1, h2, h3⟩ := h
  rcases h1.2 with ⟨e, h0⟩ | ⟨g, cap, cur, e, _⟩
  · cases e
    exact ⟨⟨h0, fun k hk => by omega⟩, h0.symm⟩
  · cases e
    refine ⟨⟨rfl, fun k hk => ?_⟩, rfl⟩
    obtain ⟨x, m, c', e, hb, _⟩ := h3 k hk
    refine ⟨g, 0, x, m, c', rfl, ?_, hb⟩
    rw [Nat.zero_add, h1.cellAt k (by omega)]
    exact e

/-- one list more -/
theorem Done.push {B : Nat} {w w' : World} {v v' : Value} {ds : List (List UInt8)} {xs : List Value} {x : Option Addr} {m c : Nat} {l : List UInt8} (h1 : w.ownsRow 0 22 1 v ds.length xs) (h2 : ∀ g, v.ownBlock = some g → B ≤ g)
    (h3 : ∀ i, i < ds.length → ∃ x m c, xs[i]? = some (.slice x m c) ∧ Bytes w x m (rc ds i) ∧ (0 < m → ∀ y, x = some y → y.block < B))
    (hb : Bytes w x m l) (hx : 0 < m → ∀ y, x = some y → y.block < B) (hBw : B ≤ w.heap.size) (hown : w'.ownsRow 0 22 1 v' (ds.length + 1) (xs ++ [.slice x m c])) (hg : w.grownBy w' v.ownBlock) (hat : v'.ownBlock = v.ownBlock ∨ v'.ownBlock = some w.heap.size) : Done B w' v' (ds ++ [l]) := by
  have hxl : xs.length = ds.length := by have := h1.1; omega
  have keep : ∀ {y : Option Addr} {k : Nat} {q : List UInt8}, Bytes w y k q → (0 < k → ∀ z, y = some z → z.block < B) → Bytes w' y k q := fun hy hz => ⟨hy.1, fun h0 => by
    obtain ⟨b, off, e, hc⟩ := hy.2 h0
    refine ⟨b, off, e, fun i hi => hg.cell (hc i hi) (fun e' => ?_)⟩
    have h1 := hz h0 _ e
    have h4 := h2 _ e'.symm
    simp only at h1 h4
    omega⟩
  refine ⟨xs ++ [.slice x m c], by rw [List.length_append, List.length_singleton]; exact hown, fun g hg' => ?_, fun i hi => ?_⟩
  · rcases hat with e | e
    · exact h2 g (by rw [← e]; exact hg')
    · rw [e] at hg'
      have : w.heap.size = g := by simpa using hg'
      omega
  · rw [List.length_append, List.length_singleton] at hi
    by_cases e : i = ds.length
    · subst e
      exact ⟨x, m, c, by rw [← hxl, List.getElem?_append_right (Nat.le_refl _)]; simp, by rw [rc_last]; exact keep hb hx, hx⟩
    · obtain ⟨y, k, d, e1, hy, hz⟩ := h3 i (by omega)
      exact ⟨y, k, d, by rw [List.getElem?_append_left (by omega)]; exact e1, by rw [rc_snoc _ _ _ (by omega)]; exact keep hy hz, hz⟩

/-- an empty slice just made, as a row -/
theorem empty_row (w : World) : (w.alloc (.cells #[] 5)).ownsRow 0 5 1 (.slice (some ⟨w.heap.size, 0, none⟩) 0 0) 0 [] :=
  ⟨rfl, .inr ⟨w.heap.size, 0, #[], rfl, Nat.zero_le _, World.alloc_heap_new w _, Nat.le_refl _, Nat.zero_le _, rfl, rfl⟩⟩

theorem empty_row_at (w : World) (B : Nat) (hB : B = w.heap.size) : (w.alloc (.cells #[] 5)).ownsRow 0 5 1 (.slice (some ⟨B, 0, none⟩) 0 0) 0 [] := by
  subst hB; exact empty_row w

end Go.Proofs.Ytjbifbfhlmdlbaa
