import Derived.Test.YtfkepoibgmljkaaB24
import Derived.Test.YtfkepoibgmljkaaB25
import Derived.Test.YtfkepoibgmljkaaB31
import Derived.Test.YtfkepoibgmljkaaB30
import Derived.Laws.IdiomArrays
/- For RunMerges: what stands while rows are put together; calls under a guard. -/
namespace Go.Proofs.Ytfkepoibgmljkaa
open Go.RowKit Go.Shelf Go.Maps

attribute [local go_sem] Oper.semAt_some

theorem KeepT.trans {t : TypeId} {X Y Z : World} (h : KeepT t X Y) (k : KeepT t Y Z) : KeepT t X Z := fun q cur fz hq => (k q cur fz ((h q cur fz hq).trans hq)).trans (h q cur fz hq)
theorem PrQ.keptT {Y Y' : World} {a : Option Addr} {n c : Nat} {l : List Pr} (h : PrQ Y a n c l) (hK : KeepT 32 Y Y') : PrQ Y' a n c l := by
  refine ⟨⟨⟨h.prs.1, fun h0 => ?_⟩, h.nil, h.cap⟩, fun p e => ?_⟩
  · obtain ⟨b, o, e, hc⟩ := h.prs.2 h0
    obtain ⟨cur, fz, hb⟩ := h.pb _ e
    have hq := hK _ cur fz hb
    simp only at hq
    refine ⟨b, o, e, fun j x hx => ?_⟩
    have := hc j x hx
    simpa only [World.cell?, hq] using this
  · obtain ⟨cur, fz, hb⟩ := h.pb p e
    exact ⟨cur, fz, (hK _ cur fz hb).trans hb⟩
theorem PrQ.tail {W : World} {b o k c : Nat} {l : List Pr} (h : PrQ W (some ⟨b, o, none⟩) k c l) (hk : 0 < k) : PrQ W (some ⟨b, o + 2, none⟩) (k - 1) (c - 1) (l.drop 1) :=
  ⟨prV_tail h.toPrV hk, fun p e => by cases e; exact h.pb ⟨b, o, none⟩ rfl⟩
theorem PrQ.last {W : World} {b o k c : Nat} {l : List Pr} (h : PrQ W (some ⟨b, o, none⟩) k c l) (hk : 0 < k) (hc : c = 1) : PrQ W (some ⟨b, o, none⟩) (k - 1) (c - 1) (l.drop 1) :=
  ⟨prV_last h.toPrV hk hc, h.pb⟩
theorem pairs_short {b : List UInt8} {l : List Pr} (h : pairsR b = some l) (hb : b.length ≤ 3000) : l.length ≤ 200 := by
  obtain ⟨_, rfl⟩ := pairs_good h
  rw [runB_len] at hb
  omega
/-- what stands while rows are put together -/
structure MgI (w wr : World) (va vr : Value) (bs : List (List UInt8)) (al : List Pr) (wrong : Bool) : Prop where
  rows : RowsO w.heap.size wr vr bs
  all : wr.ownsRow w.heap.size 32 2 va al.length (prCells al)
  below : Below w.heap.size w wr
  bad : wrong = true → ∃ b ∈ bs, pairsR b = none
  good : wrong = false → PrOk al ∧ al.length ≤ 200 * bs.length ∧ ∃ ls : List (List Pr), bs.map pairsR = ls.map some ∧ al = ls.flatten
theorem mg_bad {bs : List (List UInt8)} {wrong ok : Bool} {b : List UInt8} {l : List Pr} (h1 : wrong = true → ∃ b ∈ bs, pairsR b = none)
    (h : (ok = true ∧ pairsR b = some l) ∨ (ok = false ∧ pairsR b = none)) : (wrong || !ok) = true → ∃ x ∈ bs ++ [b], pairsR x = none := fun hw => by
  rcases h with ⟨rfl, hb⟩ | ⟨rfl, hb⟩
  · obtain ⟨x, hx, hn⟩ := h1 (by simpa using hw)
    exact ⟨x, List.mem_append_left _ hx, hn⟩
  · exact ⟨b, by simp, hb⟩
theorem mg_good {bs : List (List UInt8)} {al : List Pr} {wrong ok : Bool} {b : List UInt8} {l : List Pr} (h2 : wrong = false → PrOk al ∧ al.length ≤ 200 * bs.length ∧ ∃ ls : List (List Pr), bs.map pairsR = ls.map some ∧ al = ls.flatten)
    (h : (ok = true ∧ pairsR b = some l) ∨ (ok = false ∧ pairsR b = none)) (hs : pairsR b = some l → l.length ≤ 200) :
    (wrong || !ok) = false → PrOk (al ++ l) ∧ (al ++ l).length ≤ 200 * (bs ++ [b]).length ∧ ∃ ls : List (List Pr), (bs ++ [b]).map pairsR = ls.map some ∧ al ++ l = ls.flatten := fun hw => by
  rcases h with ⟨rfl, hb⟩ | ⟨rfl, hb⟩
  · obtain ⟨h3, h4, ls, e1, e2⟩ := h2 (by simpa using hw)
    have := hs hb
    refine ⟨h3.app (pairs_good hb).1.ok, by simp only [List.length_append, List.length_singleton]; omega, ls ++ [l], ?_, ?_⟩
    · rw [List.map_append, e1, List.map_append]
      simp [hb]
    · rw [List.flatten_append, e2]
      simp
  · simp at hw
theorem MgI.start (w : World) {w1 : World} (h : Below w.heap.size w w1) : MgI w w1 (.slice none 0 0) (.slice none 0 0) [] [] false :=
  ⟨RowsO.nil _ _, World.ownsRow_nil _ _ _ _, h, (fun h => (by cases h)), fun _ => ⟨PrOk.nil, Nat.le_refl _, [], rfl, rfl⟩⟩
theorem map_some_inj {α : Type} : ∀ {a b : List α}, a.map some = b.map some → a = b
  | [], [], _ => rfl
  | [], _ :: _, h => by cases h
  | _ :: _, [], h => by cases h
  | x :: a, y :: b, h => by
    simp only [List.map_cons, List.cons.injEq, Option.some.injEq] at h
    rw [h.1, map_some_inj h.2]
/-- what Merge answers of the rows that were put together -/
theorem MgI.wrong {w wr W w' : World} {va vr v : Value} {er : Int} {bs : List (List UInt8)} {al : List Pr} (h : MgI w wr va vr bs al true) (hM : MergeE bs W v er w') : v = .slice none 0 0 ∧ er = 8 := by
  rcases hM with ⟨_, h1, h2⟩ | ⟨ls, out, h1, _⟩
  · exact ⟨h1, h2⟩
  · obtain ⟨b, hb, hn⟩ := h.bad rfl
    have h3 : pairsR b ∈ ls.map some := by rw [← h1]; exact List.mem_map.2 ⟨b, hb, rfl⟩
    rw [hn] at h3
    obtain ⟨x, _, hx⟩ := List.mem_map.1 h3
    cases hx
theorem MgI.right {w wr W w' : World} {va vr v : Value} {er : Int} {bs : List (List UInt8)} {al : List Pr} (h : MgI w wr va vr bs al false) (hk : bs.length ≤ 10) (hM : MergeE bs W v er w') :
    er = 0 ∧ ∃ ad cp out, out.length ≤ 2000 ∧ PrOk out ∧ v = .slice ad (runB out).length cp ∧ w'.ownsRow W.heap.size 5 1 (.slice ad (runB out).length cp) (runB out).length (cellsOf (runB out)) ∧ ∀ l', SortR al l' → out = l' := by
  obtain ⟨_, hl, ls, e1, e2⟩ := h.good rfl
  rcases hM with ⟨⟨b, hb, hn⟩, _, _⟩ | ⟨ls', out, h1, hj, hok, h2⟩
  · have h3 : pairsR b ∈ bs.map pairsR := List.mem_map.2 ⟨b, hb, rfl⟩
    rw [e1, hn] at h3
    obtain ⟨x, _, hx⟩ := List.mem_map.1 h3
    cases hx
  · rw [e1] at h1
    obtain rfl := map_some_inj h1
    have hlen := hj.len
    rw [← e2] at hlen
    rcases h2 with ⟨hb, _⟩ | ⟨ad, cp, hb, rfl, rfl, ho⟩
    · omega
    · exact ⟨rfl, ad, cp, out, by omega, hok, rfl, ho, fun l' hs => joinR_sortR hj (by rw [← e2]; exact hs)⟩
set_option maxRecDepth 20000 in
theorem vstep_sortedG (w : World) {ops : Array Oper} {o : Oper} {a : Act} {K : Act → World → Prop} {Q : Exit → Act → World → Prop} {E : Prop} (hw : Region.wanted o (yielded ops a.tmps) = true) (x : Nat) (t1 : TypeId)
    (ho : o.op = .call { callee := .value (.func 6), args := #[.tmp x], argTypes := #[t1] }) (vx : Value) (hx : a.tmps[x]?.getD undef = vx) (R : Value → World → Prop)
    (hc : Calls Try.prog 6 #[vx] w fun e w' => ∃ v, e = .returned v ∧ R v w') (hK : ∀ v w', R v w' → K (a.put o.dst v) w') :
    if Region.wanted o (yielded ops a.tmps) = true then Oper.wp Try.prog o a w K Q else E := by
  rw [if_pos hw]
  unfold Oper.wp execOp
  simp [ho, resolve, invoke, go_sem, hx]
  refine hc.mono ?_
  rintro e w' ⟨v, rfl, hR⟩
  have := hK v w' hR
  simpa [go_sem] using this
set_option maxRecDepth 20000 in
theorem vstep_wakesG (w : World) {ops : Array Oper} {o : Oper} {a : Act} {K : Act → World → Prop} {Q : Exit → Act → World → Prop} {E : Prop} (hw : Region.wanted o (yielded ops a.tmps) = true)
    (ho : o.op = .call { callee := .value (.func 5), args := #[], argTypes := #[] }) (R : Value → World → Prop)
    (hc : Calls Try.prog 5 #[] w fun e w' => ∃ v, e = .returned v ∧ R v w') (hK : ∀ v w', R v w' → K (a.put o.dst v) w') :
    if Region.wanted o (yielded ops a.tmps) = true then Oper.wp Try.prog o a w K Q else E := by
  rw [if_pos hw]
  unfold Oper.wp execOp
  simp [ho, resolve, invoke, go_sem]
  refine hc.mono ?_
  rintro e w' ⟨v, rfl, hR⟩
  have := hK v w' hR
  simpa [go_sem] using this
end Go.Proofs.Ytfkepoibgmljkaa

/- A slice of slices of pairs that came in. -/
namespace Go.Proofs.Ytfkepoibgmljkaa
open Go.ChangeShapes Go.WideShapes Go.ChangeAt Go.RowKit

/-- a slice of slices of pairs, as it came in -/
structure RowsIn (W : World) (a : Option Addr) (n c : Nat) (ls : List (List Pr)) : Prop where
  len : ls.length = n
  cells : 0 < n → ∃ b o, a = some ⟨b, o, none⟩ ∧ ∀ (i : Nat) l, ls[i]? = some l → ∃ ad k cp, W.cell? ⟨b, o + i, none⟩ = some (.slice ad k cp) ∧ PrIn W ad k cp l
  cap : n ≤ c
set_option maxRecDepth 100000 in
theorem rows_arg {H : Type} {enc : TypeId × Value → H} {W : World} {base : Nat} {v : Value} {d : DataW H} {ps : List MemPlace} (hok : Value.okWide Try.prog W .any base 22 v)
    (h : DataW.Trod enc Try.prog W 0 (fun _ => true) true 22 v d ps) :
    ∃ a n cap ls, v = .slice a n cap ∧ RowsIn W a n cap ls := by
  obtain ⟨a, n, cap, rfl⟩ := okWide_slice Try.underlying22 hok
  obtain ⟨fuel, hf⟩ := h
  rcases Deep.open_slice Try.underlying22 hf with ⟨hcs, _⟩ | ⟨x, len, c, m, j, D, Pl, hcs, _, hl, hmx, hm, hx, hel⟩
  · simp [Value.cells] at hcs
    obtain ⟨rfl, rfl, rfl⟩ := hcs
    exact ⟨none, 0, 0, [], rfl, ⟨rfl, fun h0 => (by omega), Nat.le_refl _⟩⟩
  · simp [Value.cells] at hcs
    obtain ⟨rfl, rfl, rfl⟩ := hcs
    simp only [if_true] at hm
    have hcell : ∀ i, i < n → ∃ p : List Pr, ∃ ad k cp, W.cell? (x.add i) = some (.slice ad k cp) ∧ PrIn W ad k cp p := by
      intro i hi
      obtain ⟨cs', hc1, hc2⟩ := hel i (by omega)
      rw [show Try.prog.cellsOf 25 = 1 from by kernel_rfl] at hc1
      obtain ⟨_, hlen2, hget⟩ := World.cells?_some hc1
      match cs', hlen2 with
      | [c0], _ =>
        have g0 := hget 0 (by omega)
        rw [Deep.add_add] at g0
        obtain ⟨a', n', cap', l', rfl, h1⟩ := pairs_cell hc2
        exact ⟨l', a', n', cap', by simpa using g0, h1⟩
    obtain ⟨g, hg⟩ := Deep.choose_lt hcell
    have hgy : ∀ (i : Nat) y, ((List.range n).map g)[i]? = some y → i < n ∧ y = g i := fun i y hy => by
      have hi : i < n := by have := (List.getElem?_eq_some_iff.1 hy).1; simpa using this
      rw [List.getElem?_map, List.getElem?_range hi] at hy
      exact ⟨hi, (Option.some.inj hy).symm⟩
    refine ⟨some x, n, cap, (List.range n).map g, rfl, ⟨by simp, fun h0 => ?_, hl⟩⟩
    obtain ⟨b, off, spot⟩ := x
    obtain ⟨_, _, _, hc, _⟩ := hg 0 h0
    have hspot : spot = none := by simpa [Addr.add] using World.cell?_spot hc
    subst hspot
    refine ⟨b, off, rfl, fun i y hy => ?_⟩
    obtain ⟨hi, rfl⟩ := hgy i y hy
    obtain ⟨ad, k, cp, e1, e2⟩ := hg i hi
    rw [Addr.add_lit] at e1
    exact ⟨ad, k, cp, e1, e2⟩
/-- one of three slices that came in -/
structure Sl where
  a : Option Addr
  n : Nat
  c : Nat
  l : List Pr
abbrev Sl.v (x : Sl) : Value := .slice x.a x.n x.c
def Sl.In (x : Sl) (W : World) : Prop := PrIn W x.a x.n x.c x.l
set_option maxRecDepth 100000 in
theorem three_arg {H : Type} {enc : TypeId × Value → H} {W : World} {base : Nat} {v : Value} {d : DataW H} {ps : List MemPlace} (hok : Value.okWide Try.prog W .any base 41 v)
    (hd : DataW.Trod enc Try.prog W 0 (fun _ => true) true 41 v d ps) : ∃ x y z : Sl, v = .agg #[x.v, y.v, z.v] ∧ x.In W ∧ y.In W ∧ z.In W := by
  have hu : Try.prog.underlying 41 = some (.array 3 25) := Try.underlying41
  have hc3 : Try.prog.cellsOf 41 = 3 := by kernel_rfl
  have hc1 : Try.prog.cellsOf 25 = 1 := by kernel_rfl
  simp only [Value.okWide, hu] at hok
  obtain ⟨cs, rfl, h2, _⟩ := hok
  rw [hc3] at h2
  obtain ⟨fuel, hf⟩ := hd
  obtain ⟨c0, c1, c2, rfl⟩ : ∃ c0 c1 c2, cs = #[c0, c1, c2] := by
    match cs, h2 with
    | ⟨[c0, c1, c2]⟩, _ => exact ⟨c0, c1, c2, rfl⟩
  obtain ⟨y0, y1, y2, m, _, g0, g1, g2⟩ := trod_array3 hu hc1 hf
  obtain ⟨a0, n0, k0, l0, rfl, p0⟩ := pairs_cell g0
  obtain ⟨a1, n1, k1, l1, rfl, p1⟩ := pairs_cell g1
  obtain ⟨a2, n2, k2, l2, rfl, p2⟩ := pairs_cell g2
  exact ⟨⟨a0, n0, k0, l0⟩, ⟨a1, n1, k1, l1⟩, ⟨a2, n2, k2, l2⟩, rfl, p0, p1, p2⟩
end Go.Proofs.Ytfkepoibgmljkaa
