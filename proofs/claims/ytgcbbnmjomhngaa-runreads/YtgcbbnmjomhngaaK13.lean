import Derived.Test.YtgcbbnmjomhngaaK12
/- The walk of rises. -/
namespace Go.Proofs.Ytgcbbnmjomhngaa
open Go.RowKit Go.Shelf Go.Maps

attribute [local go_sem] Oper.semAt_some

theorem drop_getV {l : List Pr} {k : Nat} {x : Pr} (h : l[k]? = some x) : l.drop k = x :: l.drop (k + 1) := by
  obtain ⟨hk, rfl⟩ := List.getElem?_eq_some_iff.1 h
  exact List.drop_eq_getElem_cons hk
theorem take_getV {l : List Pr} {k : Nat} {x : Pr} (h : l[k]? = some x) : l.take (k + 1) = l.take k ++ [x] := by
  obtain ⟨hk, rfl⟩ := List.getElem?_eq_some_iff.1 h
  exact List.take_succ_eq_append_getElem hk

set_option maxRecDepth 100000 in
set_option maxHeartbeats 2000000 in
theorem rises_any (w : World) (a : Option Addr) (n c : Nat) (l : List Pr) (h : Prs w a n l) (hn : n ≤ 1000000) :
    Calls Try.prog 26 #[.slice a n c] w fun e w' => e = .returned (.bool (risF 0 l)) ∧ Below w.heap.size w w' := by
  go_enter Try.func26, Try.ntmps26
  go_wp2
  go_loopw [3, 8] (fun s i wr => ∃ k p : Nat, k ≤ n ∧ i = .int .i64 (k : Int) ∧ s = .int .u64 (p : Int) ∧ Hid (risF 0 l = risF p (l.drop k) ∧ Below w.heap.size w wr)) (fun _ i _ => n - (intOf i).toNat)
  case atStart => exact ⟨0, 0, Nat.zero_le _, rfl, rfl, rfl, Below.refl _ _⟩
  case round =>
    obtain ⟨k, p, hk, rfl, rfl, H⟩ := hrel
    by_cases hlt : k < n
    · obtain ⟨⟨x, y⟩, hx⟩ : ∃ x, l[k]? = some x := ⟨_, List.getElem?_eq_getElem (by rw [h.1]; exact hlt)⟩
      obtain ⟨b1, o1, rfl, hc1⟩ := h.2 (by omega)
      obtain ⟨t1, t2⟩ := hc1 k _ hx
      have q1 := (H.out.2.cell (p := ⟨b1, o1 + k * 2, none⟩) (World.block_lt_of_cell? w _ t1)).trans t1
      have q2 := (H.out.2.cell (p := ⟨b1, o1 + k * 2 + 1, none⟩) (World.block_lt_of_cell? w _ t2)).trans t2
      have i2 : (k : Int) < (n : Int) := by omega
      have HR : Hid (risF 0 l = (decide (p < x) && risF x (l.drop (k + 1)))) := by
        have e := H.out.1
        rw [drop_getV hx, risF] at e
        exact e
      have HB : Hid (Below w.heap.size w (wr.alloc (.cells #[.int .u64 (x : Int), .int .u64 (y : Int)] 47))) := H.out.2.alloc H.out.2.size _
      simp only at q1 q2
      clear hc1 t1 t2 hx h H
      by_cases hxp : p < x
      · have i3 : ¬ (x : Int) ≤ (p : Int) := by omega
        go_wp2
        go_roundw
        case rel => exact ⟨k + 1, x, by omega, by go_num, rfl, by rw [HR.out, decide_eq_true hxp, Bool.true_and], HB.out⟩
        case measure => simp [intOf]; omega
      · have i3 : (x : Int) ≤ (p : Int) := by omega
        go_wp2
        go_ret
        exact ⟨by rw [HR.out, decide_eq_false hxp, Bool.false_and]; rfl, HB.out⟩
    · obtain rfl : k = n := by omega
      have HR : Hid (risF 0 l = true) := by
        have e := H.out.1
        rw [List.drop_of_length_le (by rw [h.1]; exact Nat.le_refl _), risF] at e
        exact e
      go_wp2
      go_ret
      exact ⟨by rw [HR.out]; rfl, H.out.2⟩
end Go.Proofs.Ytgcbbnmjomhngaa

/- A block that is a row of pairs, made whole and written place by place. -/
namespace Go.Proofs.Ytgcbbnmjomhngaa
open Go.RowKit Go.Shelf Go.Maps

attribute [local go_sem] Oper.semAt_some

/-- block G is a row of these pairs -/
def RowV (W : World) (G : Nat) (l : List Pr) : Prop := W.heap[G]? = some (.cells (prCells l).toArray 47 (0, 0))
theorem RowV.lt {W : World} {G : Nat} {l : List Pr} (h : RowV W G l) : G < W.heap.size := (Array.getElem?_eq_some_iff.1 h).1
theorem RowV.below {W W' : World} {B G : Nat} {l : List Pr} (h : RowV W G l) (hB : Below B W W') (hg : G < B) : RowV W' G l := (hB.block G hg).trans h
theorem RowV.kept {W W' : World} {G : Nat} {row : Option Nat} {l : List Pr} (h : RowV W G l) (hg : W.grownBy W' row) (hr : row ≠ some G) : RowV W' G l := (hg.block G h.lt hr.symm).trans h
theorem RowV.at {W : World} {G : Nat} {l : List Pr} (h : RowV W G l) (j : Nat) (u : Value) (hu : (prCells l)[j]? = some u) : W.cell? ⟨G, j, none⟩ = some u := by
  have h' : W.heap[G]? = _ := h
  simp [World.cell?, h', hu]
theorem RowV.cell {W : World} {G : Nat} {l : List Pr} (h : RowV W G l) {k : Nat} {x : Pr} (hx : l[k]? = some x) : W.cell? ⟨G, k * 2, none⟩ = some (.int .u64 (x.1 : Int)) ∧ W.cell? ⟨G, k * 2 + 1, none⟩ = some (.int .u64 (x.2 : Int)) := by
  obtain ⟨h1, h2⟩ := prCells_get l k x hx
  exact ⟨h.at _ _ h1, h.at _ _ h2⟩
theorem RowV.frozen {W : World} {G : Nat} {l : List Pr} (h : RowV W G l) (j : Nat) : W.frozen? ⟨G, j, none⟩ = false := by
  have h' : W.heap[G]? = _ := h
  simp [World.frozen?, h']
theorem RowV.prs {W : World} {G : Nat} {l : List Pr} (h : RowV W G l) : Prs W (some ⟨G, 0, none⟩) l.length l :=
  ⟨rfl, fun _ => ⟨G, 0, rfl, fun j x hx => by rw [Nat.zero_add]; exact h.cell hx⟩⟩
theorem prCells_set : ∀ (l : List Pr) (k : Nat) (x y : Nat), prCells (l.set k (x, y)) = ((prCells l).set (k * 2) (.int .u64 (x : Int))).set (k * 2 + 1) (.int .u64 (y : Int))
  | [], k, x, y => by simp [prCells]
  | p :: r, 0, x, y => by simp [prCells]
  | p :: r, k + 1, x, y => by
    rw [List.set_cons_succ, prCells, prCells, prCells_set r k x y, show (k + 1) * 2 = k * 2 + 1 + 1 by omega]
    simp only [List.set_cons_succ]
theorem RowV.set {W : World} {G : Nat} {l : List Pr} (h : RowV W G l) (k x y : Nat) : RowV ((W.setCell ⟨G, k * 2, none⟩ (.int .u64 (x : Int))).setCell ⟨G, k * 2 + 1, none⟩ (.int .u64 (y : Int))) G (l.set k (x, y)) := by
  have h' : W.heap[G]? = _ := h
  unfold RowV
  rw [prCells_set]
  simp [World.setCell, Array.getElem?_modify, h', List.setIfInBounds_toArray]
theorem RowV.other {W : World} {G j i : Nat} {l : List Pr} (h : RowV W G l) (hk : G ≠ j) (u : Value) : RowV (W.setCell ⟨j, i, none⟩ u) G l :=
  (Below.heap_setCell _ _ _ _ hk).trans h
theorem RowV.owns {W : World} {G base : Nat} {l : List Pr} (h : RowV W G l) (hb : base ≤ G) (hl : l.length ≤ maxLen) : W.ownsRow base 47 2 (.slice (some ⟨G, 0, none⟩) l.length l.length) l.length (prCells l) :=
  ⟨by rw [prCells_len], .inr ⟨G, l.length, _, rfl, hb, h, Nat.le_refl _, hl, by simp [prCells_len], by rw [← prCells_len]; simp⟩⟩
theorem made_pairs (n : Nat) : madeCells (Value.cells (.agg #[.int .u64 0, .int .u64 0])) (n * 2) = (prCells (List.replicate n (0, 0))).toArray := by
  apply Array.ext'
  simp only [madeCells, Array.toList_map, Array.toList_range]
  induction n with
  | zero => rfl
  | succ n ih =>
    rw [show (n + 1) * 2 = n * 2 + 1 + 1 by omega, List.range_succ, List.range_succ, List.map_append, List.map_append, ih, List.replicate_succ', prCells_append]
    simp only [List.map_cons, List.map_nil, prCells, List.append_assoc, List.cons_append, List.nil_append]
    have e : (Value.cells (.agg #[.int .u64 0, .int .u64 0])).size = 2 := rfl
    rw [e, show n * 2 % 2 = 0 by omega, show (n * 2 + 1) % 2 = 1 by omega]
    rfl
/-- make([]Pair, n): a row of pairs of noughts -/
theorem wpList_make_prs (w : World) {ops : Array Oper} {rest : List Oper} {o : Oper} {a : Act} {Q : Exit → Act → World → Prop}
    (hg : o.guard = none) (l c : Operand) (hop : o.op = Op.makeSlice 22 l c)
    (kl kc : IntKind) (n : Nat) (L C : Int) (hl : a.eval l = .int kl L) (hc : a.eval c = .int kc C) (hL : L = (n : Int)) (hC : C = (n : Int)) (hn : n ≤ 1000000)
    (hK : ∀ w1, RowV w1 w.heap.size (List.replicate n (0, 0)) → Below w.heap.size w w1 → wpList Try.prog ops Q rest (a.put o.dst (.slice (some ⟨w.heap.size, 0, none⟩) n n)) w1) :
    wpList Try.prog ops Q (o :: rest) a w := by
  obtain ⟨i0, hi, hz0, hz1, hz2⟩ := info_parts infoPr
  refine wpList_plain hg fun K hK' => ?_
  subst hL
  subst hC
  have hrun := run_make (P := Try.prog) w 22 47 i0 _ Try.underlying22 hi hz0 kl kc (n : Int) (n : Int) (by omega) (by omega) (by rw [hz2]; omega) (by omega)
  simp only [hz1, Int.toNat_natCast] at hrun
  rw [made_pairs] at hrun
  unfold Oper.wp
  simp [execOp, hop, hl, hc, hrun, Result.andThen]
  exact hK' _ _ (hK _ (heap_alloc_new w _) ((Below.refl _ _).alloc (Nat.le_refl _) _))
end Go.Proofs.Ytgcbbnmjomhngaa
