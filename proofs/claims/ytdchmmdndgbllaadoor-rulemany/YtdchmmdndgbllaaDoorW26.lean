import Derived.Test.YtdchmmdndgbllaaDoorW14
import Derived.Test.YtdchmmdndgbllaaDoorW21
import Derived.Maps.OwnIn
import Derived.Maps.AppendAt
/- Rules in a row of one's own. -/
namespace Go.Proofs.YtdchmmdndgbllaaDoor
open Go.RowKit Go.Shelf Go.Maps

attribute [local go_sem] Oper.semAt_some

theorem infoRule : (Tryd.prog.info? 26).map (fun i => (i.zero, i.size, i.bytes)) = some (some (.agg #[.int .i64 0, .string ⟨#[]⟩, .string ⟨#[]⟩]), 3, 40) := by kernel_rfl
def ruCells : List Ru → List Value
  | [] => []
  | x :: r => .int .i64 x.1 :: .string (mk x.2.1) :: .string (mk x.2.2) :: ruCells r
theorem ruCells_len : ∀ l : List Ru, (ruCells l).length = l.length * 3
  | [] => rfl
  | x :: r => by simp only [ruCells, List.length_cons, ruCells_len r]; omega
theorem ruCells_one : ∀ (l : List Ru), ∀ u ∈ ruCells l, u.oneCell' = true
  | [], u, h => by cases h
  | x :: r, u, h => by
    simp only [ruCells, List.mem_cons] at h
    rcases h with rfl | rfl | rfl | h
    · rfl
    · rfl
    · rfl
    · exact ruCells_one r u h
theorem ruCells_append : ∀ (l m : List Ru), ruCells (l ++ m) = ruCells l ++ ruCells m
  | [], m => rfl
  | x :: r, m => by simp [ruCells, ruCells_append r m]
theorem ruCells_get : ∀ (l : List Ru) (j : Nat) (x : Ru), l[j]? = some x → (ruCells l)[j * 3]? = some (.int .i64 x.1) ∧ (ruCells l)[j * 3 + 1]? = some (.string (mk x.2.1)) ∧ (ruCells l)[j * 3 + 2]? = some (.string (mk x.2.2))
  | [], j, x, h => by simp at h
  | y :: r, 0, x, h => by
    simp at h; subst h
    exact ⟨rfl, rfl, rfl⟩
  | y :: r, j + 1, x, h => by
    have ih := ruCells_get r j x (by simpa using h)
    rw [show (j + 1) * 3 = j * 3 + 3 by omega]
    exact ih
/-- a slice of rules -/
def Rus (w : World) (a : Option Addr) (n : Nat) (l : List Ru) : Prop := l.length = n ∧ (0 < n → ∃ b off, a = some ⟨b, off, none⟩ ∧ ∀ (j : Nat) x, l[j]? = some x → w.cell? ⟨b, off + j * 3, none⟩ = some (.int .i64 x.1) ∧ w.cell? ⟨b, off + j * 3 + 1, none⟩ = some (.string (mk x.2.1)) ∧ w.cell? ⟨b, off + j * 3 + 2, none⟩ = some (.string (mk x.2.2)))
theorem Rus.kept {w w' : World} {a : Option Addr} {n : Nat} {l : List Ru} (h : Rus w a n l) (hB : Below w.heap.size w w') : Rus w' a n l :=
  ⟨h.1, fun h0 => by
    obtain ⟨b, off, e, hc⟩ := h.2 h0
    refine ⟨b, off, e, fun j x hx => ?_⟩
    obtain ⟨h1, h2, h3⟩ := hc j x hx
    exact ⟨(hB.cell (p := ⟨b, off + j * 3, none⟩) (World.block_lt_of_cell? w _ h1)).trans h1, (hB.cell (p := ⟨b, off + j * 3 + 1, none⟩) (World.block_lt_of_cell? w _ h2)).trans h2, (hB.cell (p := ⟨b, off + j * 3 + 2, none⟩) (World.block_lt_of_cell? w _ h3)).trans h3⟩⟩
theorem rus_nil (w : World) (a : Option Addr) : Rus w a 0 [] := ⟨rfl, fun h => by omega⟩
theorem row_shapeR {w : World} {B n : Nat} {v : Value} {xs : List Value} (h : w.ownsRow B 26 3 v n xs) : ∃ ad c, v = .slice ad n c ∧ n ≤ c ∧ (ad = none → n = 0 ∧ c = 0) := by
  rcases h.2 with ⟨rfl, rfl⟩ | ⟨g, cap, cur, rfl, _, _, hc, _⟩
  · exact ⟨none, 0, rfl, Nat.le_refl _, fun _ => ⟨rfl, rfl⟩⟩
  · exact ⟨_, _, rfl, hc, fun h => by cases h⟩
theorem own_rus {w : World} {B n c : Nat} {ad : Option Addr} {l : List Ru} (h : w.ownsRow B 26 3 (.slice ad n c) n (ruCells l)) (hl : l.length = n) : Rus w ad n l := by
  refine ⟨hl, fun h0 => ?_⟩
  rcases h.2 with ⟨e, h'⟩ | ⟨g, cap, cur, e, _⟩
  · omega
  · cases e
    refine ⟨g, 0, rfl, fun j x hx => ?_⟩
    obtain ⟨h1, h2, h3⟩ := ruCells_get l j x hx
    have c1 := h.cells (g := g) rfl _ _ h1
    have c2 := h.cells (g := g) rfl _ _ h2
    have c3 := h.cells (g := g) rfl _ _ h3
    rw [Addr.add_lit] at c1 c2 c3
    simp only [Nat.zero_add] at c1 c2 c3 ⊢
    exact ⟨c1, c2, c3⟩
theorem row_blockR {W : World} {base n : Nat} {v : Value} {xs : List Value} (h : W.ownsRow base 26 3 v n xs) : ∀ r, v.ownBlock = some r → base ≤ r ∧ r < W.heap.size ∧ ∃ cur, W.heap[r]? = some (.cells cur 26 (0, 0)) := by
  intro r hr
  rcases h.2 with ⟨rfl, _⟩ | ⟨g, cap, cur, rfl, hb, hg, _⟩
  · cases hr
  · cases hr
    exact ⟨hb, (Array.getElem?_eq_some_iff.1 hg).1, cur, hg⟩
theorem below_grR {W W' : World} {B n : Nat} {v : Value} {xs : List Value} (h : W.ownsRow B 26 3 v n xs) (hB : B ≤ W.heap.size) (hg : W.grownBy W' v.ownBlock) : Below B W W' :=
  ⟨hg.os, hg.tape, hg.output, hg.size, fun k hk => hg.block k (by omega) (fun e => by have := (row_blockR h k e.symm).1; omega)⟩
theorem row_movedR {W W' : World} {base n : Nat} {v : Value} {xs : List Value} (h : W.ownsRow base 26 3 v n xs) (hs : ∀ r, v.ownBlock = some r → W'.heap[r]? = W.heap[r]?) : W'.ownsRow base 26 3 v n xs := by
  refine ⟨h.1, ?_⟩
  rcases h.2 with h | ⟨g, cap, cur, rfl, hg, hb, rest⟩
  · exact .inl h
  · exact .inr ⟨g, cap, cur, rfl, hg, (hs g rfl).trans hb, rest⟩
theorem row_baseR {W : World} {base base' n : Nat} {v : Value} {xs : List Value} (h : W.ownsRow base 26 3 v n xs) (hb : base' ≤ base) : W.ownsRow base' 26 3 v n xs := by
  refine ⟨h.1, ?_⟩
  rcases h.2 with h | ⟨g, cap, cur, rfl, hg, rest⟩
  · exact .inl h
  · exact .inr ⟨g, cap, cur, rfl, Nat.le_trans hb hg, rest⟩
theorem cells_ru_new (W : World) (x : Ru) : ∀ (j : Nat) u, (ruCells [x])[j]? = some u → (W.alloc (.cells #[.int .i64 x.1, .string (mk x.2.1), .string (mk x.2.2)] 26)).cell? (Addr.add ⟨W.heap.size, 0, none⟩ j) = some u := by
  intro j u hj
  match j, hj with
  | 0, hj => simp [ruCells] at hj; subst hj; simp [Addr.add]
  | 1, hj => simp [ruCells] at hj; subst hj; simp [Addr.add]
  | 2, hj => simp [ruCells] at hj; subst hj; simp [Addr.add]
end Go.Proofs.YtdchmmdndgbllaaDoor
