import Derived.Test.YtdjodigimhgklaaGreatDoorMD06
import Derived.Test.YtdjodigimhgklaaGreatDoorMD09
import Derived.Test.YtdjodigimhgklaaGreatDoorMD07
import Derived.Laws.AppendOwnNone
import Derived.Laws.StructEq
import Derived.Maps.OwnIn
import Derived.Maps.AppendAt
import Derived.Test.YtdjodigimhgklaaGreatDoorMD08
import Derived.Test.YtdjodigimhgklaaGreatDoorMD13
import Derived.Test.YtdjodigimhgklaaGreatDoorMD01
import Derived.Test.YtdjodigimhgklaaGreatDoorMD12
import Derived.Test.YtdjodigimhgklaaGreatDoorMD14
import Derived.Test.YtdjodigimhgklaaGreatDoorMD11
/- Pairs in memory, in rows of one's own too, and appended to them. -/
namespace Go.Proofs.YtdjodigimhgklaaGreatDoor
open Go.RowKit Go.Shelf Go.Maps

attribute [local go_sem] Oper.semAt_some

theorem infoPr : (Tryz.prog.info? 39).map (fun i => (i.zero, i.size, i.bytes)) = some (some (.agg #[.int .u64 0, .int .u64 0]), 2, 16) := by kernel_rfl
abbrev pv (p : Pr) : Value := .agg #[.int .u64 (p.1 : Int), .int .u64 (p.2 : Int)]
def prCells : List Pr → List Value
  | [] => []
  | x :: r => .int .u64 (x.1 : Int) :: .int .u64 (x.2 : Int) :: prCells r
theorem prCells_len : ∀ l : List Pr, (prCells l).length = l.length * 2
  | [] => rfl
  | x :: r => by simp only [prCells, List.length_cons, prCells_len r]; omega
theorem prCells_one : ∀ (l : List Pr), ∀ u ∈ prCells l, u.oneCell' = true
  | [], u, h => by cases h
  | x :: r, u, h => by
    simp only [prCells, List.mem_cons] at h
    rcases h with rfl | rfl | h
    · rfl
    · rfl
    · exact prCells_one r u h
theorem prCells_append : ∀ (l m : List Pr), prCells (l ++ m) = prCells l ++ prCells m
  | [], m => rfl
  | x :: r, m => by simp [prCells, prCells_append r m]
theorem prCells_get : ∀ (l : List Pr) (j : Nat) (x : Pr), l[j]? = some x → (prCells l)[j * 2]? = some (.int .u64 (x.1 : Int)) ∧ (prCells l)[j * 2 + 1]? = some (.int .u64 (x.2 : Int))
  | [], j, x, h => by simp at h
  | y :: r, 0, x, h => by
    simp at h; subst h
    exact ⟨rfl, rfl⟩
  | y :: r, j + 1, x, h => by
    have ih := prCells_get r j x (by simpa using h)
    rw [show (j + 1) * 2 = j * 2 + 2 by omega]
    exact ih
/-- a slice of pairs -/
def Prs (w : World) (a : Option Addr) (n : Nat) (l : List Pr) : Prop := l.length = n ∧ (0 < n → ∃ b off, a = some ⟨b, off, none⟩ ∧ ∀ (j : Nat) x, l[j]? = some x → w.cell? ⟨b, off + j * 2, none⟩ = some (.int .u64 (x.1 : Int)) ∧ w.cell? ⟨b, off + j * 2 + 1, none⟩ = some (.int .u64 (x.2 : Int)))
theorem Prs.kept {w w' : World} {a : Option Addr} {n : Nat} {l : List Pr} (h : Prs w a n l) (hB : Below w.heap.size w w') : Prs w' a n l :=
  ⟨h.1, fun h0 => by
    obtain ⟨b, off, e, hc⟩ := h.2 h0
    refine ⟨b, off, e, fun j x hx => ?_⟩
    obtain ⟨h1, h2⟩ := hc j x hx
    exact ⟨(hB.cell (p := ⟨b, off + j * 2, none⟩) (World.block_lt_of_cell? w _ h1)).trans h1, (hB.cell (p := ⟨b, off + j * 2 + 1, none⟩) (World.block_lt_of_cell? w _ h2)).trans h2⟩⟩
theorem Prs.low {w w' : World} {B : Nat} {a : Option Addr} {n : Nat} {l : List Pr} (h : Prs w a n l) (hB : Below B w w') (hb : ∀ p, a = some p → p.block < B) : Prs w' a n l :=
  ⟨h.1, fun h0 => by
    obtain ⟨b, off, e, hc⟩ := h.2 h0
    have hb' := hb _ e
    refine ⟨b, off, e, fun j x hx => ?_⟩
    obtain ⟨h1, h2⟩ := hc j x hx
    exact ⟨(hB.cell (p := ⟨b, off + j * 2, none⟩) hb').trans h1, (hB.cell (p := ⟨b, off + j * 2 + 1, none⟩) hb').trans h2⟩⟩
theorem prs_nil (w : World) (a : Option Addr) : Prs w a 0 [] := ⟨rfl, fun h => by omega⟩
theorem prs_take {w : World} {a : Option Addr} {n : Nat} {l : List Pr} (h : Prs w a n l) (k : Nat) (hk : k ≤ n) : Prs w a k (l.take k) :=
  ⟨by rw [List.length_take, h.1]; omega, fun h0 => by
    obtain ⟨b, off, e, hc⟩ := h.2 (by omega)
    refine ⟨b, off, e, fun j x hx => hc j x ?_⟩
    have hj : j < k := by have := (List.getElem?_eq_some_iff.1 hx).1; rw [List.length_take] at this; omega
    rwa [List.getElem?_take, if_pos hj] at hx⟩
theorem row_shapeV {w : World} {B n : Nat} {v : Value} {xs : List Value} (h : w.ownsRow B 39 2 v n xs) : ∃ ad c, v = .slice ad n c ∧ n ≤ c ∧ (ad = none → n = 0 ∧ c = 0) := by
  rcases h.2 with ⟨rfl, rfl⟩ | ⟨g, cap, cur, rfl, _, _, hc, _⟩
  · exact ⟨none, 0, rfl, Nat.le_refl _, fun _ => ⟨rfl, rfl⟩⟩
  · exact ⟨_, _, rfl, hc, fun h => by cases h⟩
theorem own_prs {w : World} {B n c : Nat} {ad : Option Addr} {l : List Pr} (h : w.ownsRow B 39 2 (.slice ad n c) n (prCells l)) (hl : l.length = n) : Prs w ad n l := by
  refine ⟨hl, fun h0 => ?_⟩
  rcases h.2 with ⟨e, h'⟩ | ⟨g, cap, cur, e, _⟩
  · omega
  · cases e
    refine ⟨g, 0, rfl, fun j x hx => ?_⟩
    obtain ⟨h1, h2⟩ := prCells_get l j x hx
    have c1 := h.cells (g := g) rfl _ _ h1
    have c2 := h.cells (g := g) rfl _ _ h2
    rw [Addr.add_lit] at c1 c2
    simp only [Nat.zero_add] at c1 c2 ⊢
    exact ⟨c1, c2⟩
theorem row_blockV {W : World} {base n : Nat} {v : Value} {xs : List Value} (h : W.ownsRow base 39 2 v n xs) : ∀ r, v.ownBlock = some r → base ≤ r ∧ r < W.heap.size ∧ ∃ cur, W.heap[r]? = some (.cells cur 39 (0, 0)) := by
  intro r hr
  rcases h.2 with ⟨rfl, _⟩ | ⟨g, cap, cur, rfl, hb, hg, _⟩
  · cases hr
  · cases hr
    exact ⟨hb, (Array.getElem?_eq_some_iff.1 hg).1, cur, hg⟩
theorem below_grV {W W' : World} {B n : Nat} {v : Value} {xs : List Value} (h : W.ownsRow B 39 2 v n xs) (hB : B ≤ W.heap.size) (hg : W.grownBy W' v.ownBlock) : Below B W W' :=
  ⟨hg.os, hg.tape, hg.output, hg.size, fun k hk => hg.block k (by omega) (fun e => by have := (row_blockV h k e.symm).1; omega)⟩
theorem row_movedV {W W' : World} {base n : Nat} {v : Value} {xs : List Value} (h : W.ownsRow base 39 2 v n xs) (hs : ∀ r, v.ownBlock = some r → W'.heap[r]? = W.heap[r]?) : W'.ownsRow base 39 2 v n xs := by
  refine ⟨h.1, ?_⟩
  rcases h.2 with h | ⟨g, cap, cur, rfl, hg, hb, rest⟩
  · exact .inl h
  · exact .inr ⟨g, cap, cur, rfl, hg, (hs g rfl).trans hb, rest⟩
theorem row_keptV {W W' : World} {base n : Nat} {v : Value} {xs : List Value} (h : W.ownsRow base 39 2 v n xs) (hB : Below W.heap.size W W') : W'.ownsRow base 39 2 v n xs :=
  row_movedV h fun r hr => hB.block r (row_blockV h r hr).2.1
theorem row_baseV {W : World} {base base' n : Nat} {v : Value} {xs : List Value} (h : W.ownsRow base 39 2 v n xs) (hb : base' ≤ base) : W.ownsRow base' 39 2 v n xs := by
  refine ⟨h.1, ?_⟩
  rcases h.2 with h | ⟨g, cap, cur, rfl, hg, rest⟩
  · exact .inl h
  · exact .inr ⟨g, cap, cur, rfl, Nat.le_trans hb hg, rest⟩
theorem cells_pr_new (W : World) (x : Pr) : ∀ (j : Nat) u, (prCells [x])[j]? = some u → (W.alloc (.cells #[.int .u64 (x.1 : Int), .int .u64 (x.2 : Int)] 39)).cell? (Addr.add ⟨W.heap.size, 0, none⟩ j) = some u := by
  intro j u hj
  match j, hj with
  | 0, hj => simp [prCells] at hj; subst hj; simp [Addr.add]
  | 1, hj => simp [prCells] at hj; subst hj; simp [Addr.add]
theorem prs_news {w : World} {b : Nat} : ∀ (l : List Pr) (off : Nat), (∀ (j : Nat) x, l[j]? = some x → w.cell? ⟨b, off + j * 2, none⟩ = some (.int .u64 (x.1 : Int)) ∧ w.cell? ⟨b, off + j * 2 + 1, none⟩ = some (.int .u64 (x.2 : Int))) →
    ∀ (j : Nat) u, (prCells l)[j]? = some u → w.cell? ⟨b, off + j, none⟩ = some u
  | [], _, _, j, u, h => by simp [prCells] at h
  | x :: r, off, hc, 0, u, h => by
    simp [prCells] at h; subst h
    have := (hc 0 x rfl).1
    simpa using this
  | x :: r, off, hc, 1, u, h => by
    simp [prCells] at h; subst h
    have := (hc 0 x rfl).2
    simpa using this
  | x :: r, off, hc, j + 2, u, h => by
    have ih := prs_news r (off + 2) (fun i y hy => by
      have := hc (i + 1) y (by simpa using hy)
      rw [show off + (i + 1) * 2 = off + 2 + i * 2 by omega] at this
      exact this) j u (by simpa [prCells] using h)
    rw [show off + (j + 2) = off + 2 + j by omega]
    exact ih
theorem row_emptyV (w : World) (base : Nat) (hb : base ≤ w.heap.size) : (w.alloc (.cells #[] 39)).ownsRow base 39 2 (.slice (some ⟨w.heap.size, 0, none⟩) 0 0) 0 (prCells []) :=
  World.ownsRow_made w #[] 0 hb (by unfold maxLen; omega) rfl
theorem wpList_appV {wr : World} {ops : Array Oper} {rest : List Oper} {o : Oper} {a : Act} {Q : Exit → Act → World → Prop}
    (hgd : o.guard = none) (s x : Operand) (hop : o.op = Op.call { callee := Callee.builtin Builtin.append, args := #[s, x], argTypes := #[36, 36] })
    (base n m c : Nat) (v : Value) (k l : List Pr) (ad : Option Addr) (hs : a.eval s = v) (hx : a.eval x = .slice ad m c)
    (hown : wr.ownsRow base 39 2 v n (prCells k)) (hb : Prs wr ad m l) (hnil : ad = none → m = 0 ∧ c = 0) (hm : (n + m) * 16 ≤ 140737488355328) (hbase : base ≤ wr.heap.size)
    (hK : ∀ ad' c' w', n + m ≤ c' → w'.ownsRow base 39 2 (.slice ad' (n + m) c') (n + m) (prCells (k ++ l)) → Below base wr w' → wpList Tryz.prog ops Q rest (a.put o.dst (.slice ad' (n + m) c')) w') :
    wpList Tryz.prog ops Q (o :: rest) a wr := by
  obtain ⟨i0, hi, hz0, hz1, hz2⟩ := info_parts infoPr
  cases ad with
  | none =>
    obtain ⟨rfl, rfl⟩ := hnil rfl
    have hl : l = [] := List.eq_nil_of_length_eq_zero hb.1
    subst hl
    obtain ⟨ad', c', rfl, hc', _⟩ := row_shapeV hown
    refine wpList_append_own_none hgd s x 36 hop base 39 i0 2 Tryz.underlying36 hi _ n _ hs hown hx ?_
    have := hK ad' c' wr (by omega) (by simpa using hown) (Below.refl _ _)
    simpa using this
  | some ad =>
    refine wpList_append_own_at _ hgd s x 36 hop base 39 i0 _ 2 16 Tryz.underlying36 hi hz0 hz1 hz2 rfl (by omega) v n _ hs hown ad m c (prCells l) hx (by rw [prCells_len, hb.1]) ?_ (prCells_one l) (by unfold maxLen; omega) hm hbase ?_
    · intro j u hj
      have hl := hb.1
      by_cases hm0 : 0 < m
      · obtain ⟨b, off, e, hc⟩ := hb.2 hm0
        cases e
        rw [Addr.add_lit]
        exact prs_news l off hc j u hj
      · have : l = [] := List.eq_nil_of_length_eq_zero (by omega)
        subst this
        simp [prCells] at hj
    · intro v' w' h1 h2 _ _
      obtain ⟨ad', c', rfl, hc', _⟩ := row_shapeV h1
      exact hK ad' c' w' hc' (by rw [prCells_append]; exact h1) ((Below.refl base wr).grown h2 hbase (fun k hk => (hown.lt k hk).1))
/-- a box of a pair -/
def BoxV (W : World) (g : Nat) (x y : Int) : Prop := W.heap[g]? = some (.cells #[.int .u64 x, .int .u64 y] 39 (0, 0))
theorem BoxV.lt {W : World} {g : Nat} {x y : Int} (h : BoxV W g x y) : g < W.heap.size := (Array.getElem?_eq_some_iff.1 h).1
theorem BoxV.new (W : World) (x y : Int) : BoxV (W.alloc (.cells #[.int .u64 x, .int .u64 y] 39)) W.heap.size x y := World.alloc_heap_new W _
theorem BoxV.below {W W' : World} {B g : Nat} {x y : Int} (h : BoxV W g x y) (hB : Below B W W') (hg : g < B) : BoxV W' g x y := (hB.block g hg).trans h
theorem BoxV.cell {W : World} {g : Nat} {x y : Int} (h : BoxV W g x y) : W.cell? ⟨g, 0, none⟩ = some (.int .u64 x) ∧ W.cell? ⟨g, 1, none⟩ = some (.int .u64 y) := by
  unfold BoxV at h
  refine ⟨?_, ?_⟩ <;> simp [World.cell?, h]
theorem BoxV.frozen {W : World} {g : Nat} {x y : Int} (h : BoxV W g x y) : W.frozen? ⟨g, 0, none⟩ = false ∧ W.frozen? ⟨g, 1, none⟩ = false := by
  unfold BoxV at h
  refine ⟨?_, ?_⟩ <;> simp [World.frozen?, h]
theorem BoxV.all {W : World} {g : Nat} {x y : Int} (h : BoxV W g x y) (x' y' : Int) : BoxV ((W.setCell ⟨g, 0, none⟩ (.int .u64 x')).setCell ⟨g, 1, none⟩ (.int .u64 y')) g x' y' := by
  have h' := h
  unfold BoxV at h'
  simp [BoxV, World.setCell, Array.getElem?_modify, h', Array.setIfInBounds]
theorem BoxV.set0 {W : World} {g : Nat} {x y : Int} (h : BoxV W g x y) (x' : Int) : BoxV (W.setCell ⟨g, 0, none⟩ (.int .u64 x')) g x' y := by
  have h' := h
  unfold BoxV at h'
  simp [BoxV, World.setCell, Array.getElem?_modify, h', Array.setIfInBounds]
theorem BoxV.other {W : World} {g j i : Nat} {x y : Int} (h : BoxV W g x y) (hk : g ≠ j) (u : Value) : BoxV (W.setCell ⟨j, i, none⟩ u) g x y :=
  (Below.heap_setCell _ _ _ _ hk).trans h
theorem eqV (w : World) (a b c d : Int) : (binOp .eql 39 (.agg #[.int .u64 a, .int .u64 b]) (.agg #[.int .u64 c, .int .u64 d])).run Tryz.prog w = .ok (.bool (a == c && b == d)) w := by
  have u3 := Tryz.underlying23
  have hS : Tryz.prog.underlying 39 = some (.struct (Tryz.prog.fieldsOf 39)) := by kernel_rfl
  have hp : Tryz.prog.stoodInHeld 39 = false := by kernel_rfl
  rw [run_eql_struct, show (10000 : Nat) = 9999 + 1 from rfl, run_equalIn_agg w 9999 39 _ _ hS hp]
  simp only [Program.fieldsOf, Tryz.underlying39]
  go_simp
  cases h1 : (a == c) <;> cases h2 : (b == d) <;> simp_all
theorem neV (w : World) (a b c d : Int) : (binOp .neq 39 (.agg #[.int .u64 a, .int .u64 b]) (.agg #[.int .u64 c, .int .u64 d])).run Tryz.prog w = .ok (.bool (!(a == c && b == d))) w := by
  have h := eqV w a b c d
  rw [run_eql_struct] at h
  rw [run_neq_struct]
  generalize (Op.equalIn 10000 39 (.agg #[.int .u64 a, .int .u64 b]) (.agg #[.int .u64 c, .int .u64 d])).run Tryz.prog w = r at *
  cases r with
  | ok b w1 =>
    simp only [Result.andThen] at h ⊢
    cases h
    rfl
  | halt x w1 => cases h
end Go.Proofs.YtdjodigimhgklaaGreatDoor

/- The walk of rises. -/
namespace Go.Proofs.YtdjodigimhgklaaGreatDoor
open Go.RowKit Go.Shelf Go.Maps

attribute [local go_sem] Oper.semAt_some

theorem drop_getV {l : List Pr} {k : Nat} {x : Pr} (h : l[k]? = some x) : l.drop k = x :: l.drop (k + 1) := by
  obtain ⟨hk, rfl⟩ := List.getElem?_eq_some_iff.1 h
  exact List.drop_eq_getElem_cons hk
theorem take_getV {l : List Pr} {k : Nat} {x : Pr} (h : l[k]? = some x) : l.take (k + 1) = l.take k ++ [x] := by
  obtain ⟨hk, rfl⟩ := List.getElem?_eq_some_iff.1 h
  exact List.take_succ_eq_append_getElem hk

set_option maxRecDepth 100000 in
set_option maxHeartbeats 2000000 in
theorem rises_any (w : World) (a : Option Addr) (n c : Nat) (l : List Pr) (h : Prs w a n l) (hn : n ≤ 1000000) :
    Calls Tryz.prog 72 #[.slice a n c] w fun e w' => e = .returned (.bool (risF 0 l)) ∧ Below w.heap.size w w' := by
  go_enter Tryz.func72, Tryz.ntmps72
  go_wp2
  go_loopw [3, 8] (fun s i wr => ∃ k p : Nat, k ≤ n ∧ i = .int .i64 (k : Int) ∧ s = .int .u64 (p : Int) ∧ Hid (risF 0 l = risF p (l.drop k) ∧ Below w.heap.size w wr)) (fun _ i _ => n - (intOf i).toNat)
  case atStart => exact ⟨0, 0, Nat.zero_le _, rfl, rfl, rfl, Below.refl _ _⟩
  case round =>
    obtain ⟨k, p, hk, rfl, rfl, H⟩ := hrel
    by_cases hlt : k < n
    · obtain ⟨⟨x, y⟩, hx⟩ : ∃ x, l[k]? = some x := ⟨_, List.getElem?_eq_getElem (by rw [h.1]; exact hlt)⟩
      obtain ⟨b1, o1, rfl, hc1⟩ := h.2 (by omega)
      obtain ⟨t1, t2⟩ := hc1 k _ hx
      have q1 := (H.out.2.cell (p := ⟨b1, o1 + k * 2, none⟩) (World.block_lt_of_cell? w _ t1)).trans t1
      have q2 := (H.out.2.cell (p := ⟨b1, o1 + k * 2 + 1, none⟩) (World.block_lt_of_cell? w _ t2)).trans t2
      have i2 : (k : Int) < (n : Int) := by omega
      have HR : Hid (risF 0 l = (decide (p < x) && risF x (l.drop (k + 1)))) := by
        have e := H.out.1
        rw [drop_getV hx, risF] at e
        exact e
      have HB : Hid (Below w.heap.size w (wr.alloc (.cells #[.int .u64 (x : Int), .int .u64 (y : Int)] 39))) := H.out.2.alloc H.out.2.size _
      simp only at q1 q2
      clear hc1 t1 t2 hx h H
      by_cases hxp : p < x
      · have i3 : ¬ (x : Int) ≤ (p : Int) := by omega
        go_wp2
        go_roundw
        case rel => exact ⟨k + 1, x, by omega, by go_num, rfl, by rw [HR.out, decide_eq_true hxp, Bool.true_and], HB.out⟩
        case measure => simp [intOf]; omega
      · have i3 : (x : Int) ≤ (p : Int) := by omega
        go_wp2
        go_ret
        exact ⟨by rw [HR.out, decide_eq_false hxp, Bool.false_and]; rfl, HB.out⟩
    · obtain rfl : k = n := by omega
      have HR : Hid (risF 0 l = true) := by
        have e := H.out.1
        rw [List.drop_of_length_le (by rw [h.1]; exact Nat.le_refl _), risF] at e
        exact e
      go_wp2
      go_ret
      exact ⟨by rw [HR.out]; rfl, H.out.2⟩
end Go.Proofs.YtdjodigimhgklaaGreatDoor

/- The names of a memo's files. -/
namespace Go.Proofs.YtdjodigimhgklaaGreatDoor
open Go.RowKit Go.Shelf

attribute [local go_sem] Oper.semAt_some

theorem str_app (a b : List UInt8) : (⟨a.toArray⟩ : ByteArray) ++ ⟨b.toArray⟩ = ⟨(a ++ b).toArray⟩ := ByteArray.ext (by simp)
def nmB (key n : Nat) : List UInt8 := [109, 101, 109, 111, 45] ++ hexOf key ++ (if n = 0 then [] else 45 :: Lib.decDigits n)
set_option maxRecDepth 20000 in
set_option maxHeartbeats 1000000 in
theorem fileName_any (key n : Nat) (w : World) (hk : key < 18446744073709551616) (hn : n < 100) :
    Calls Tryz.prog 37 #[.int .u64 (key : Int), .int .i64 (n : Int)] w fun e w' => e = .returned (.string ⟨(nmB key n).toArray⟩) ∧ Below w.heap.size w w' := by
  have hx := hex_any key w hk
  have h16 := hexOf_len key
  have hdd : ∀ n < 100, (Lib.decDigits n).length ≤ 2 := by decide +kernel
  have hd2 := hdd n hn
  clear hdd
  by_cases h0 : n = 0
  · have i0 : ((n : Int) == 0) = true := by simp [h0]
    have HE : Hid (nmB key n = [109, 101, 109, 111, 45] ++ hexOf key) := (by simp [nmB, h0] : nmB key n = [109, 101, 109, 111, 45] ++ hexOf key)
    clear hd2 h0
    go_enter Tryz.func37, Tryz.ntmps37
    go_wp2_with (go_at_call 76; refine hx.mono ?_; clear hx; rintro e w1 ⟨rfl, hB1⟩)
    go_ret
    refine ⟨?_, hB1⟩
    show Ending.returned (Value.string ((⟨#[109, 101, 109, 111, 45]⟩ : ByteArray) ++ ⟨(hexOf key).toArray⟩)) = _
    rw [HE.out, ← str_app]
  · have i1 : ((n : Int) == 0) = false := by simp; omega
    have hit := fun W => Tryz.strconv_Itoa_small n hn W
    go_enter Tryz.func37, Tryz.ntmps37
    go_wp2_with first
      | (go_at_call 77; refine (hit _).mono ?_; clear hit; rintro e w2 ⟨rfl, hw2⟩; subst hw2)
      | (go_at_call 76; refine hx.mono ?_; clear hx; rintro e w1 ⟨rfl, hB1⟩)
    go_ret
    refine ⟨?_, hB1⟩
    show Ending.returned (Value.string ((⟨#[109, 101, 109, 111, 45]⟩ : ByteArray) ++ ⟨(hexOf key).toArray⟩ ++ ⟨#[45]⟩ ++ ⟨(Lib.decDigits n).toArray⟩)) = _
    rw [show nmB key n = [109, 101, 109, 111, 45] ++ hexOf key ++ [45] ++ Lib.decDigits n by simp [nmB, h0], ← str_app, ← str_app, ← str_app]
end Go.Proofs.YtdjodigimhgklaaGreatDoor

/- A block that is a row of pairs, made whole and written place by place. -/
namespace Go.Proofs.YtdjodigimhgklaaGreatDoor
open Go.RowKit Go.Shelf Go.Maps

attribute [local go_sem] Oper.semAt_some

/-- block G is a row of these pairs -/
def RowV (W : World) (G : Nat) (l : List Pr) : Prop := W.heap[G]? = some (.cells (prCells l).toArray 39 (0, 0))
theorem RowV.lt {W : World} {G : Nat} {l : List Pr} (h : RowV W G l) : G < W.heap.size := (Array.getElem?_eq_some_iff.1 h).1
theorem RowV.below {W W' : World} {B G : Nat} {l : List Pr} (h : RowV W G l) (hB : Below B W W') (hg : G < B) : RowV W' G l := (hB.block G hg).trans h
theorem RowV.kept {W W' : World} {G : Nat} {row : Option Nat} {l : List Pr} (h : RowV W G l) (hg : W.grownBy W' row) (hr : row ≠ some G) : RowV W' G l := (hg.block G h.lt hr.symm).trans h
theorem RowV.at {W : World} {G : Nat} {l : List Pr} (h : RowV W G l) (j : Nat) (u : Value) (hu : (prCells l)[j]? = some u) : W.cell? ⟨G, j, none⟩ = some u := by
  have h' : W.heap[G]? = _ := h
  simp [World.cell?, h', hu]
theorem RowV.cell {W : World} {G : Nat} {l : List Pr} (h : RowV W G l) {k : Nat} {x : Pr} (hx : l[k]? = some x) : W.cell? ⟨G, k * 2, none⟩ = some (.int .u64 (x.1 : Int)) ∧ W.cell? ⟨G, k * 2 + 1, none⟩ = some (.int .u64 (x.2 : Int)) := by
  obtain ⟨h1, h2⟩ := prCells_get l k x hx
  exact ⟨h.at _ _ h1, h.at _ _ h2⟩
theorem RowV.frozen {W : World} {G : Nat} {l : List Pr} (h : RowV W G l) (j : Nat) : W.frozen? ⟨G, j, none⟩ = false := by
  have h' : W.heap[G]? = _ := h
  simp [World.frozen?, h']
theorem RowV.prs {W : World} {G : Nat} {l : List Pr} (h : RowV W G l) : Prs W (some ⟨G, 0, none⟩) l.length l :=
  ⟨rfl, fun _ => ⟨G, 0, rfl, fun j x hx => by rw [Nat.zero_add]; exact h.cell hx⟩⟩
theorem prCells_set : ∀ (l : List Pr) (k : Nat) (x y : Nat), prCells (l.set k (x, y)) = ((prCells l).set (k * 2) (.int .u64 (x : Int))).set (k * 2 + 1) (.int .u64 (y : Int))
  | [], k, x, y => by simp [prCells]
  | p :: r, 0, x, y => by simp [prCells]
  | p :: r, k + 1, x, y => by
    rw [List.set_cons_succ, prCells, prCells, prCells_set r k x y, show (k + 1) * 2 = k * 2 + 1 + 1 by omega]
    simp only [List.set_cons_succ]
theorem RowV.set {W : World} {G : Nat} {l : List Pr} (h : RowV W G l) (k x y : Nat) : RowV ((W.setCell ⟨G, k * 2, none⟩ (.int .u64 (x : Int))).setCell ⟨G, k * 2 + 1, none⟩ (.int .u64 (y : Int))) G (l.set k (x, y)) := by
  have h' : W.heap[G]? = _ := h
  unfold RowV
  rw [prCells_set]
  simp [World.setCell, Array.getElem?_modify, h', List.setIfInBounds_toArray]
theorem RowV.other {W : World} {G j i : Nat} {l : List Pr} (h : RowV W G l) (hk : G ≠ j) (u : Value) : RowV (W.setCell ⟨j, i, none⟩ u) G l :=
  (Below.heap_setCell _ _ _ _ hk).trans h
theorem RowV.owns {W : World} {G base : Nat} {l : List Pr} (h : RowV W G l) (hb : base ≤ G) (hl : l.length ≤ maxLen) : W.ownsRow base 39 2 (.slice (some ⟨G, 0, none⟩) l.length l.length) l.length (prCells l) :=
  ⟨by rw [prCells_len], .inr ⟨G, l.length, _, rfl, hb, h, Nat.le_refl _, hl, by simp [prCells_len], by rw [← prCells_len]; simp⟩⟩
theorem made_pairs (n : Nat) : madeCells (Value.cells (.agg #[.int .u64 0, .int .u64 0])) (n * 2) = (prCells (List.replicate n (0, 0))).toArray := by
  apply Array.ext'
  simp only [madeCells, Array.toList_map, Array.toList_range]
  induction n with
  | zero => rfl
  | succ n ih =>
    rw [show (n + 1) * 2 = n * 2 + 1 + 1 by omega, List.range_succ, List.range_succ, List.map_append, List.map_append, ih, List.replicate_succ', prCells_append]
    simp only [List.map_cons, List.map_nil, prCells, List.append_assoc, List.cons_append, List.nil_append]
    have e : (Value.cells (.agg #[.int .u64 0, .int .u64 0])).size = 2 := rfl
    rw [e, show n * 2 % 2 = 0 by omega, show (n * 2 + 1) % 2 = 1 by omega]
    rfl
/-- make([]Pair, n): a row of pairs of noughts -/
theorem wpList_make_prs (w : World) {ops : Array Oper} {rest : List Oper} {o : Oper} {a : Act} {Q : Exit → Act → World → Prop}
    (hg : o.guard = none) (l c : Operand) (hop : o.op = Op.makeSlice 36 l c)
    (kl kc : IntKind) (n : Nat) (L C : Int) (hl : a.eval l = .int kl L) (hc : a.eval c = .int kc C) (hL : L = (n : Int)) (hC : C = (n : Int)) (hn : n ≤ 1000000)
    (hK : ∀ w1, RowV w1 w.heap.size (List.replicate n (0, 0)) → Below w.heap.size w w1 → wpList Tryz.prog ops Q rest (a.put o.dst (.slice (some ⟨w.heap.size, 0, none⟩) n n)) w1) :
    wpList Tryz.prog ops Q (o :: rest) a w := by
  obtain ⟨i0, hi, hz0, hz1, hz2⟩ := info_parts infoPr
  refine wpList_plain hg fun K hK' => ?_
  subst hL
  subst hC
  have hrun := run_make (P := Tryz.prog) w 36 39 i0 _ Tryz.underlying36 hi hz0 kl kc (n : Int) (n : Int) (by omega) (by omega) (by rw [hz2]; omega) (by omega)
  simp only [hz1, Int.toNat_natCast] at hrun
  rw [made_pairs] at hrun
  unfold Oper.wp
  simp [execOp, hop, hl, hc, hrun, Result.andThen]
  exact hK' _ _ (hK _ (heap_alloc_new w _) ((Below.refl _ _).alloc (Nat.le_refl _) _))
end Go.Proofs.YtdjodigimhgklaaGreatDoor

/- The walks of Append. -/
namespace Go.Proofs.YtdjodigimhgklaaGreatDoor
open Go.RowKit

theorem jappend_nil (w : World) (v : Value) : Calls Tryz.prog 88 #[.pointer none, v] w fun e w' => e = .returned (.int .i64 1) ∧ w' = w := by
  go_enter Tryz.func88, Tryz.ntmps88
  go_wp2
  go_ret
  exact ⟨rfl, rfl⟩

theorem jappend_cut (w : World) (j d : Nat) (nm : ByteArray) (rs : List (List UInt8)) (sz : Nat) (F : Nat → Prop) (h : JAt w j d nm rs sz true F) (v : Value) :
    Calls Tryz.prog 88 #[.pointer (some ⟨j, 0, none⟩), v] w fun e w' => e = .returned (.int .i64 6) ∧ w' = w := by
  have c6 := h.c6
  clear h
  go_enter Tryz.func88, Tryz.ntmps88
  go_wp2
  go_ret
  exact ⟨rfl, rfl⟩

theorem jappend_long (w : World) (j d : Nat) (nm : ByteArray) (rs : List (List UInt8)) (sz : Nat) (F : Nat → Prop) (h : JAt w j d nm rs sz false F) (a : Option Addr) (m c : Nat) (hm : 262144 < m) :
    Calls Tryz.prog 88 #[.pointer (some ⟨j, 0, none⟩), .slice a m c] w fun e w' => e = .returned (.int .i64 3) ∧ w' = w := by
  have c6 := h.c6
  have i1 : (262144 : Int) < (m : Int) := by omega
  clear h
  go_enter Tryz.func88, Tryz.ntmps88
  go_wp2
  go_ret
  exact ⟨rfl, rfl⟩

/-- what lies behind an Append to a Journal that is not cut -/
def Appended (w w' : World) (j d : Nat) (nm : ByteArray) (rs : List (List UInt8)) (sz : Nat) (F : Nat → Prop) (S : DG) (G : Nat → Prop) (l : List UInt8) (e : Ending) : Prop :=
  e = .returned (.int .i64 (S.app nm.data.toList (recB l)).2) ∧ Turn (fun k => F k ∨ G k) w w' ∧ ∃ F' G', IsDisk w' d (S.app nm.data.toList (recB l)).1 G' ∧ (∀ k, F' k → F k ∨ w.heap.size ≤ k) ∧ (∀ k, G' k → G k ∨ w.heap.size ≤ k) ∧ (∀ k, F' k → ¬ G' k) ∧
    (((S.app nm.data.toList (recB l)).2 = 0 ∧ JAt w' j d nm (rs ++ [l]) (sz + (recB l).length) false F') ∨ ((S.app nm.data.toList (recB l)).2 ≠ 0 ∧ JAt w' j d nm rs sz (decide ((S.app nm.data.toList (recB l)).2 = 6)) F'))

theorem app_ok {S : DG} {nm l : List UInt8} (h : (S.app nm l).2 = 0) : l.length + (S.bs nm).length ≤ 4194304 := by
  unfold DG.app at h
  split at h
  · cases h
  · split at h
    · cases h
    · rename_i h1 h2
      simp only [not_or] at h2
      omega

set_option maxRecDepth 20000 in
set_option maxHeartbeats 4000000 in
theorem jappend_any (w : World) (j d : Nat) (nm : ByteArray) (rs : List (List UInt8)) (sz : Nat) (F : Nat → Prop) (S : DG) (G : Nat → Prop) (h : JAt w j d nm rs sz false F) (hd : IsDisk w d S G) (hFG : ∀ k, F k → ¬ G k)
    (a : Option Addr) (m c : Nat) (l : List UInt8) (hb : Bytes w a m l) (hm : m ≤ 262144) (ha : 0 < m → ∀ x, a = some x → ¬ F x.block ∧ ¬ G x.block) (hs : nm.size ≤ maxLen) (hbs : (S.bs nm.data.toList).length ≤ 4194304) (hsz : sz ≤ (S.bs nm.data.toList).length) (hn : S.n ≤ 256) (hw : S.wr < 4000000000000000000) :
    Calls Tryz.prog 88 #[.pointer (some ⟨j, 0, none⟩), .slice a m c] w fun e w' => Appended w w' j d nm rs sz F S G l e := by
  have c6 := h.c6
  have i1 : ¬ (262144 : Int) < (m : Int) := by omega
  have hll := hb.1
  have hlt := h.lt
  have hdlt := hd.lt
  go_enter Tryz.func88, Tryz.ntmps88
  go_wp2_with fail
  refine (form_any a m c l w hb (by omega)).mono ?_
  rintro e w0 ⟨g, c1, rfl, hown0, hB0⟩
  obtain ⟨w1, hw1⟩ : ∃ w1, w1 = w0.drew := ⟨_, rfl⟩
  have hown1 : w1.ownsRow w.heap.size 5 1 (.slice (some ⟨g, 0, none⟩) (recB l).length c1) (recB l).length (cellsOf (recB l)) := by rw [hw1]; exact hown0.drew
  have hB1 : Below w.heap.size w w1 := by rw [hw1]; exact ⟨hB0.os, hB0.tape, hB0.output, hB0.size, hB0.block⟩
  have c00 : w0.cell? ⟨j, 0, none⟩ = some (.pointer (some ⟨d, 0, none⟩)) := (h.below hB0).c0
  have c01 : w0.cell? ⟨j, 1, none⟩ = some (.string nm) := (h.below hB0).c1
  clear hown0 hB0
  have hJ1 := h.below hB1
  have hd1 := hd.below hB1
  have hb1 : Bytes w1 a m l := (Turn.of_below (fun _ => False) hB1).bytes hb (fun _ _ _ => id)
  obtain ⟨hbr, hgr⟩ := ownsRow_toBytes hown1
  have hgb := hgr _ rfl
  obtain ⟨_, _, e1, hnc1, _⟩ := ownsRow_shape hown1
  cases e1
  have hx2 := append_any d S G w1 nm (some ⟨g, 0, none⟩) (recB l).length c1 (recB l) hd1 hs hbr hnc1 (by simp) (fun _ x hx => by cases hx; exact ⟨fun hg => by have := hdlt _ hg; simp only at this hgb; omega, hgb.2⟩) hbs hn hw (by have := (recB_pos l).2; omega)
  have hc0 := hJ1.c0
  have hc1 := hJ1.c1
  have hjG : ¬ G j := hFG j hJ1.fj
  have hs1 := hB1.size
  obtain ⟨er, her⟩ : ∃ er, er = (S.app nm.data.toList (recB l)).2 := ⟨_, rfl⟩
  obtain ⟨N, hN⟩ : ∃ N, N = (recB l).length := ⟨_, rfl⟩
  have HE : Hid (er = (S.app nm.data.toList (recB l)).2 ∧ N = (recB l).length) := ⟨her, hN⟩
  rw [← her, ← hN] at hx2
  rw [← hN]
  clear h hd hb hown1 hbr hgr hgb hnc1 c6 hN her
  go_wp2_with fail
  rw [hw1] at hx2
  go_region_held3 (fun W => W.cell? ⟨j, 0, none⟩ = some (.pointer (some ⟨d, 0, none⟩)) ∧ W.cell? ⟨j, 1, none⟩ = some (.string nm))
    (first
      | (go_split_ands
         refine ⟨by go_keep, by go_keep⟩)
      | (go_split_ands
         exact ⟨hT2.cell c00 hjG, hT2.cell c01 hjG⟩))
    ((go_at_call 20; refine hx2.mono ?_; rintro e w2 ⟨rfl, hd2, hT2⟩))
  rw [← hw1] at hd2 hT2
  clear hx2 hw1 c00 c01
  have hJ2 := hJ1.turn hT2 hFG
  have HT2 : Hid (Turn (fun k => F k ∨ G k) w w2) := (Turn.of_below _ hB1).trans hT2 (fun i _ h => .inr h)
  by_cases h0 : er = 0
  · have hok := app_ok (S := S) (nm := nm.data.toList) (l := recB l) (by rw [← HE.out.1]; exact h0)
    have hrl := recB_pos l
    have hcnt := hJ2.cnt
    have HD2 : Hid (IsDisk w2 d (S.app nm.data.toList (recB l)).1 (grow G w1 w2)) := hd2
    have HJ2 : Hid (JAt w2 j d nm rs sz false F) := hJ2
    have Hdis : Hid (∀ k, F k → ¬ grow G w1 w2 k) := fun k hk hg => hg.elim (hFG k hk) (fun h => by have := hlt k hk; omega)
    have Hok : Hid (sz + (recB l).length ≤ 4194304 ∧ 9 + l.length ≤ (recB l).length) := ⟨by omega, hrl.1⟩
    have hx3 := add_any j 2 rs F w2 a m c l hJ2.pay hJ2.fj hJ2.lt (hT2.bytes hb1 (fun h0 x hx => (ha h0 x hx).2)) (fun h0 x hx => (ha h0 x hx).1) (by omega) (by omega)
    subst h0
    clear hJ2 hd2 hT2 hJ1 hd1 hb1 hok hrl hcnt
    go_wp2_with fail
    refine hx3.mono ?_
    rintro e w3 ⟨rfl, hp3, hT3, hR3⟩
    have c5 : w3.cell? ⟨j, 5, none⟩ = some (.int .i64 sz) := (hR3.1 5 (by decide) (by decide) (by decide)).trans HJ2.out.c5
    have f5 : w3.frozen? ⟨j, 5, none⟩ = false := (hR3.2 5).trans HJ2.out.f5
    have hsm := HJ2.out.small
    have HA : Hid (∀ z : Int, z = ((sz + (recB l).length : Nat) : Int) → JAt (w3.setCell ⟨j, 5, none⟩ (.int .i64 z)) j d nm (rs ++ [l]) (sz + (recB l).length) false (grow F w2 w3) ∧ Turn F w2 (w3.setCell ⟨j, 5, none⟩ (.int .i64 z))) := fun z hz => HJ2.out.added hp3 hT3 hR3 _ Hok.out.2 Hok.out.1 z hz
    have hNs : N ≤ 4194304 := by have := HE.out.2; have := Hok.out.1; omega
    have hlt2 := HD2.out.lt
    clear hx3 hp3 hR3
    have hs3 := hT3.size
    have hs2 := HT2.out.size
    clear hT3
    go_wp2
    go_ret
    have hA := HA.out _ (show (sz : Int) + (N : Int) = ((sz + (recB l).length : Nat) : Int) by rw [← HE.out.2]; omega)
    have hEq := HE.out.1
    refine ⟨by rw [← hEq]; rfl, HT2.out.trans hA.2 (fun i _ h => .inl h), grow F w2 w3, grow G w1 w2, HD2.out.turn hA.2 (fun k hk hf => Hdis.out k hf hk), fun k hk => hk.imp id (fun h => by omega), fun k hk => hk.imp id (fun h => by omega), fun k hk hg => hk.elim (fun h => Hdis.out k h hg) (fun h => by have := hlt2 k hg; omega), .inl ⟨hEq.symm, hA.1⟩⟩
  · have h0' : (er != 0) = true := by simpa using h0
    have c6 := hJ2.c6
    have f6 := hJ2.f6
    have HM : Hid (∀ b, JAt (w2.setCell ⟨j, 6, none⟩ (.bool b)) j d nm rs sz b F ∧ Turn F w2 (w2.setCell ⟨j, 6, none⟩ (.bool b))) := fun b => hJ2.mark b
    have HD2 : Hid (IsDisk w2 d (S.app nm.data.toList (recB l)).1 (grow G w1 w2)) := hd2
    have Hdis : Hid (∀ k, F k → ¬ grow G w1 w2 k) := fun k hk hg => hg.elim (hFG k hk) (fun h => by have := hlt k hk; omega)
    clear hJ2 hd2 hT2 hJ1 hd1 hb1
    go_wp2
    go_ret
    have hM := HM.out (er == 6)
    have hEq := HE.out.1
    refine ⟨by rw [← hEq]; rfl, HT2.out.trans hM.2 (fun i _ h => .inl h), F, grow G w1 w2, HD2.out.turn hM.2 (fun k hk hf => Hdis.out k hf hk), fun k hk => .inl hk, fun k hk => hk.imp id (fun h => by omega), Hdis.out, .inr ⟨by rw [← hEq]; exact h0, ?_⟩⟩
    rw [← hEq]
    exact hM.1

end Go.Proofs.YtdjodigimhgklaaGreatDoor
