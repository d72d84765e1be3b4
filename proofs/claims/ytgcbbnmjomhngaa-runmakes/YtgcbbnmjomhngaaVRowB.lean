/- A block that is a row of pairs, made whole and written place by place. -/
import Derived.Test.YtgcbbnmjomhngaaVRises
namespace Go.Proofs.Ytgcbbnmjomhngaa
open Go.RowKit Go.Shelf Go.Maps

attribute [local go_sem] Oper.semAt_some

/-- block G is a row of these pairs -/
def RowV (W : World) (G : Nat) (l : List Pr) : Prop := W.heap[G]? = some (.cells (prCells l).toArray 47 (0, 0))
theorem RowV.lt {W : World} {G : Nat} {l : List Pr} (h : RowV W G l) : G < W.heap.size := (Array.getElem?_eq_some_iff.1 h).1
theorem RowV.below {W W' : World} {B G : Nat} {l : List Pr} (h : RowV W G l) (hB : Below B W W') (hg : G < B) : RowV W' G l := (hB.block G hg).trans h
theorem RowV.kept {W W' : World} {G : Nat} {row : Option Nat} {l : List Pr} (h : RowV W G l) (hg : W.grownBy W' row) (hr : row ≠ some G) : RowV W' G l := (hg.block G h.lt hr.symm).trans h
theorem RowV.at {W : World} {G : Nat} {l : List Pr} (h : RowV W G l) (j : Nat) (u : Value) (hu : (prCells l)[j]? = some u) : W.cell? ⟨G, j, none⟩ = some u := by
  have h' : W.heap[G]? = _ := h
  simp [World.cell?, h', hu]
theorem RowV.cell {W : World} {G : Nat} {l : List Pr} (h : RowV W G l) {k : Nat} {x : Pr} (hx : l[k]? = some x) : W.cell? ⟨G, k * 2, none⟩ = some (.int .u64 (x.1 : Int)) ∧ W.cell? ⟨G, k * 2 + 1, none⟩ = some (.int .u64 (x.2 : Int)) := by
  obtain ⟨h1, h2⟩ := prCells_get l k x hx
  exact ⟨h.at _ _ h1, h.at _ _ h2⟩
theorem RowV.frozen {W : World} {G : Nat} {l : List Pr} (h : RowV W G l) (j : Nat) : W.frozen? ⟨G, j, none⟩ = false := by
  have h' : W.heap[G]? = _ := h
  simp [World.frozen?, h']
theorem RowV.prs {W : World} {G : Nat} {l : List Pr} (h : RowV W G l) : Prs W (some ⟨G, 0, none⟩) l.length l :=
  ⟨rfl, fun _ => ⟨G, 0, rfl, fun j x hx => by rw [Nat.zero_add]; exact h.cell hx⟩⟩
theorem prCells_set : ∀ (l : List Pr) (k : Nat) (x y : Nat), prCells (l.set k (x, y)) = ((prCells l).set (k * 2) (.int .u64 (x : Int))).set (k * 2 + 1) (.int .u64 (y : Int))
  | [], k, x, y => by simp [prCells]
  | p :: r, 0, x, y => by simp [prCells]
  | p :: r, k + 1, x, y => by
    rw [List.set_cons_succ, prCells, prCells, prCells_set r k x y, show (k + 1) * 2 = k * 2 + 1 + 1 by omega]
    simp only [List.set_cons_succ]
theorem RowV.set {W : World} {G : Nat} {l : List Pr} (h : RowV W G l) (k x y : Nat) : RowV ((W.setCell ⟨G, k * 2, none⟩ (.int .u64 (x : Int))).setCell ⟨G, k * 2 + 1, none⟩ (.int .u64 (y : Int))) G (l.set k (x, y)) := by
  have h' : W.heap[G]? = _ := h
  unfold RowV
  rw [prCells_set]
  simp [World.setCell, Array.getElem?_modify, h', List.setIfInBounds_toArray]
theorem RowV.other {W : World} {G j i : Nat} {l : List Pr} (h : RowV W G l) (hk : G ≠ j) (u : Value) : RowV (W.setCell ⟨j, i, none⟩ u) G l :=
  (Below.heap_setCell _ _ _ _ hk).trans h
theorem RowV.owns {W : World} {G base : Nat} {l : List Pr} (h : RowV W G l) (hb : base ≤ G) (hl : l.length ≤ maxLen) : W.ownsRow base 47 2 (.slice (some ⟨G, 0, none⟩) l.length l.length) l.length (prCells l) :=
  ⟨by rw [prCells_len], .inr ⟨G, l.length, _, rfl, hb, h, Nat.le_refl _, hl, by simp [prCells_len], by rw [← prCells_len]; simp⟩⟩
theorem made_pairs (n : Nat) : madeCells (Value.cells (.agg #[.int .u64 0, .int .u64 0])) (n * 2) = (prCells (List.replicate n (0, 0))).toArray := by
  apply Array.ext'
  simp only [madeCells, Array.toList_map, Array.toList_range]
  induction n with
  | zero => rfl
  | succ n ih =>
    rw [show (n + 1) * 2 = n * 2 + 1 + 1 by omega, List.range_succ, List.range_succ, List.map_append, List.map_append, ih, List.replicate_succ', prCells_append]
    simp only [List.map_cons, List.map_nil, prCells, List.append_assoc, List.cons_append, List.nil_append]
    have e : (Value.cells (.agg #[.int .u64 0, .int .u64 0])).size = 2 := rfl
    rw [e, show n * 2 % 2 = 0 by omega, show (n * 2 + 1) % 2 = 1 by omega]
    rfl
/-- make([]Pair, n): a row of pairs of noughts -/
theorem wpList_make_prs (w : World) {ops : Array Oper} {rest : List Oper} {o : Oper} {a : Act} {Q : Exit → Act → World → Prop}
    (hg : o.guard = none) (l c : Operand) (hop : o.op = Op.makeSlice 22 l c)
    (kl kc : IntKind) (n : Nat) (L C : Int) (hl : a.eval l = .int kl L) (hc : a.eval c = .int kc C) (hL : L = (n : Int)) (hC : C = (n : Int)) (hn : n ≤ 1000000)
    (hK : ∀ w1, RowV w1 w.heap.size (List.replicate n (0, 0)) → Below w.heap.size w w1 → wpList Try.prog ops Q rest (a.put o.dst (.slice (some ⟨w.heap.size, 0, none⟩) n n)) w1) :
    wpList Try.prog ops Q (o :: rest) a w := by
  obtain ⟨i0, hi, hz0, hz1, hz2⟩ := info_parts infoPr
  refine wpList_plain hg fun K hK' => ?_
  subst hL
  subst hC
  have hrun := run_make (P := Try.prog) w 22 47 i0 _ Try.underlying22 hi hz0 kl kc (n : Int) (n : Int) (by omega) (by omega) (by rw [hz2]; omega) (by omega)
  simp only [hz1, Int.toNat_natCast] at hrun
  rw [made_pairs] at hrun
  unfold Oper.wp
  simp [execOp, hop, hl, hc, hrun, Result.andThen]
  exact hK' _ _ (hK _ (heap_alloc_new w _) ((Below.refl _ _).alloc (Nat.le_refl _) _))
end Go.Proofs.Ytgcbbnmjomhngaa
