import Derived.Test.YtfkepoibgmljkaaB05
/- The walks of withRoom (a copy of bytes with room behind them), of Read and of Raw. -/
namespace Go.Proofs.Ytfkepoibgmljkaa
open Go.RowKit


/-- make with a length and a greater capacity, elements of one cell: the new row, whole -/
theorem wpList_make_part {P : Program} (w : World) {ops : Array Oper} {rest : List Oper} {o : Oper} {a : Act} {Q : Exit → Act → World → Prop}
    (hg : o.guard = none) (l c : Operand) (t : TypeId) (hop : o.op = Op.makeSlice t l c)
    (e : TypeId) (i : TypeInfo) (z : Value) (h1 : P.underlying t = some (.slice e)) (h2 : P.info? e = some i) (h3 : i.zero = some z) (h4 : i.size = 1) (h5 : i.bytes = 1)
    (kl kc : IntKind) (n m : Nat) (L C : Int) (hl : a.eval l = .int kl L) (hc : a.eval c = .int kc C) (hL : L = (n : Int)) (hC : C = (m : Int)) (hnm : n ≤ m) (b2 : m ≤ 281474976710656)
    (hK : ∀ w1, Hid (w1.heap[w.heap.size]? = some (.cells (madeCells z.cells m) e (0, 0))) → Below w.heap.size w w1 → wpList P ops Q rest (a.put o.dst (.slice (some ⟨w.heap.size, 0, none⟩) n m)) w1) :
    wpList P ops Q (o :: rest) a w := by
  refine wpList_plain hg fun K hK' => ?_
  have hrun := run_make (P := P) w t e i z h1 h2 h3 kl kc L C (by omega) (by omega) (by rw [h5]; omega) (by omega)
  subst hL
  subst hC
  simp only [h4, Nat.mul_one, Int.toNat_natCast] at hrun
  unfold Oper.wp
  simp [execOp, hop, hl, hc, hrun, Result.andThen]
  exact hK' _ _ (hK _ (heap_alloc_new w _) ((Below.refl _ _).alloc (Nat.le_refl _) _))

theorem grownBy_of_below {w w' : World} (h : Below w.heap.size w w') : w.grownBy w' none := ⟨h.os, h.tape, h.output, h.size, fun k hk _ => h.block k hk⟩

theorem size_made (z : Array Value) (n : Nat) : (madeCells z n).toList.length = n := by rw [Array.length_toList, size_madeCells]

/-- copy into a row just made: the row holds the bytes -/
theorem copy_fill (w w1 : World) (a : Option Addr) (n cap m : Nat) (l : List UInt8) (z : Array Value) (hb : Bytes w a n l) (hnm : n ≤ m) (hm : m ≤ maxLen)
    (hg : w1.heap[w.heap.size]? = some (.cells (madeCells z m) 5 (0, 0))) (hB : Below w.heap.size w w1) :
    ∃ w2, (Builtin.copy_ #[23, 23] 3 #[.slice (some ⟨w.heap.size, 0, none⟩) n m, .slice a n cap]).run Try.prog w1 = .ok (goInt n) w2 ∧
      w2.ownsRow w.heap.size 5 1 (.slice (some ⟨w.heap.size, 0, none⟩) n m) n (cellsOf l) ∧ w.grownBy w2 none := by
  obtain ⟨i0, hi, hz0, hz1, hz2⟩ := info_parts Try.info5
  have hu := Try.underlying23
  have hsz : (Try.prog.info? 5).map (·.size) = some 1 := by rw [hi]; simp [hz1]
  have hll : (cellsOf l).length = n := by rw [cellsOf_length, hb.1]
  by_cases h0 : n = 0
  · subst h0
    refine ⟨w1, run_copy_none (P := Try.prog) w1 23 23 3 5 _ a 0 m 0 cap hu hsz rfl, ⟨by rw [hll], .inr ⟨w.heap.size, m, _, rfl, Nat.le_refl _, hg, by omega, hm, by rw [size_madeCells]; omega, ?_⟩⟩, grownBy_of_below hB⟩
    have : cellsOf l = [] := List.eq_nil_of_length_eq_zero hll
    rw [this]; simp
  · obtain ⟨b, off, rfl, hc⟩ := hb.2 (by omega)
    have hsrc : ∀ j v, (cellsOf l)[j]? = some v → w1.cell? ((⟨b, off, none⟩ : Addr).add j) = some v := by
      intro j v hj
      have hjl : j < n := by have := (List.getElem?_eq_some_iff.1 hj).1; omega
      rw [cellsOf_get l j (by rw [hb.1]; exact hjl)] at hj
      have hold' : w.cell? ⟨b, off + j, none⟩ = some v := by rw [hc j hjl]; exact hj
      rw [Addr.add_lit, hB.cell (World.block_lt_of_cell? w _ hold')]
      exact hold'
    have hrun := run_copy_row (P := Try.prog) w1 23 23 3 5 w.heap.size 0 n m ⟨b, off, none⟩ n cap (madeCells z m) 5 (cellsOf l) hu hsz hg (by rw [hll]; exact (Nat.min_self n).symm) hsrc (by rw [hll, size_madeCells]; omega) (cellsOf_one l)
    refine ⟨_, by rw [hrun, hll], ⟨by rw [hll]; omega, .inr ⟨w.heap.size, m, _, rfl, Nat.le_refl _, setRow_heap w1 _ _ _ _ _ hg, by omega, hm, ?_, ?_⟩⟩, grownBy_of_below (below_setRow hB (Nat.le_refl _) _)⟩
    · simp [size_madeCells, hll]; omega
    · simp [← hll]

set_option maxHeartbeats 400000 in
theorem withRoom_any (a : Option Addr) (n cap more : Nat) (l : List UInt8) (w : World) (hb : Bytes w a n l) (hm : n + more ≤ 281474976710656) :
    Calls Try.prog 50 #[.slice a n cap, .int .i64 more] w fun e w' => e = .returned (.slice (some ⟨w.heap.size, 0, none⟩) n (n + more)) ∧
      w'.ownsRow w.heap.size 5 1 (.slice (some ⟨w.heap.size, 0, none⟩) n (n + more)) n (cellsOf l) ∧ w.grownBy w' none := by
  obtain ⟨i0, hi, hz0, hz1, hz2⟩ := info_parts Try.info5
  have hu := Try.underlying23
  go_enter Try.func50, Try.ntmps50
  go_wp2_with (at_make; refine wpList_make_part _ rfl _ _ 23 rfl 5 i0 (.int .u8 0) hu hi hz0 hz1 hz2 _ _ n (n + more) _ _ rfl rfl rfl (by omega) (by omega) hm ?_; intro w1 hg1 hb1; obtain ⟨w2, hcp, hfin⟩ := copy_fill w w1 a n cap (n + more) l _ hb (by omega) (by unfold maxLen; omega) hg1.out hb1)
  go_ret
  exact ⟨rfl, hfin⟩

/-- a row that is owned, as bytes -/
theorem ownsRow_bytes {w : World} {B g n cap : Nat} {l : List UInt8} (h : w.ownsRow B 5 1 (.slice (some ⟨g, 0, none⟩) n cap) n (cellsOf l)) : Bytes w (some ⟨g, 0, none⟩) n l ∧ B ≤ g ∧ g < w.heap.size := by
  have hll : l.length = n := by have := h.1; rw [cellsOf_length] at this; omega
  refine ⟨⟨hll, fun _ => ⟨g, 0, rfl, fun i hi => ?_⟩⟩, h.lt g rfl⟩
  have := h.cells (g := g) rfl i _ (cellsOf_get l i (by omega))
  rw [Addr.add_lit] at this
  exact this

set_option maxHeartbeats 400000 in
theorem oread_any (a : Option Addr) (n cap : Nat) (l : List UInt8) (w : World) (hb : Bytes w a n l) (hm : n ≤ 281474976710656) :
    Calls Try.prog 36 #[.slice a n cap] w fun e w' => ∃ r g, e = .returned (.pointer (some ⟨r, 0, none⟩)) ∧ w.heap.size ≤ r ∧ w.heap.size ≤ g ∧ Rd w' r g 0 0 l ∧ w.grownBy w' none := by
  go_enter Try.func36, Try.ntmps36
  go_wp2_with fail
  refine (withRoom_any a n cap 0 l w hb (by omega)).mono ?_
  rintro e w1 ⟨rfl, hown, hg⟩
  go_wp2
  go_ret
  have hll : l.length = n := hb.1
  obtain ⟨hby, _, hlt⟩ := ownsRow_bytes hown
  have hlt' : w.heap.size < w1.heap.size := hlt
  refine ⟨w1.heap.size, w.heap.size, rfl, hg.size, Nat.le_refl _, ?_, grownBy_trans hg (World.grownBy_alloc _ _ _)⟩
  refine ⟨?_, ?_, ?_, ?_, ?_, by omega, by unfold maxLen; omega, by omega, fun i hi => ?_⟩
  · simp
  · simp
  · simp [hll]
  · simp
  · simp
  · obtain ⟨b, off, hb1, hc⟩ := hby.2 (by omega)
    simp only [Option.some.injEq, Addr.mk.injEq, and_true] at hb1
    obtain ⟨rfl, rfl⟩ := hb1
    have := hc i (by omega)
    rw [Nat.zero_add] at this
    exact (World.grownBy_alloc w1 _ none).cell this (by simp)

end Go.Proofs.Ytfkepoibgmljkaa

/- Laws for the walk: one byte appended to a row of bytes of the call's own, with room and without; bytes as a string. -/
namespace Go.Proofs.Ytfkepoibgmljkaa
open Go.RowKit

/-- append(out, c) where out has room: the byte was laid into a block of its own just before -/
theorem wpList_push_fits {wr : World} {ops : Array Oper} {rest : List Oper} {o : Oper} {a : Act} {Q : Exit → Act → World → Prop} (z : Int)
    (hgd : o.guard = none) (s x : Operand) (hop : o.op = Op.call { callee := Callee.builtin Builtin.append, args := #[s, x], argTypes := #[23, 23] })
    (base g m cap : Nat) (xs : List Value) (hs : a.eval s = .slice (some ⟨g, 0, none⟩) m cap) (hx : a.eval x = .slice (some ⟨wr.heap.size, 0, none⟩) 1 1)
    (hown : wr.ownsRow base 5 1 (.slice (some ⟨g, 0, none⟩) m cap) m xs) (hfit : m + 1 ≤ cap)
    (hK : ∀ w', w'.ownsRow base 5 1 (.slice (some ⟨g, 0, none⟩) (m + 1) cap) (m + 1) (xs ++ [.int .u8 z]) → wr.grownBy w' (some g) → wpList Try.prog ops Q rest (a.put o.dst (.slice (some ⟨g, 0, none⟩) (m + 1) cap)) w') :
    wpList Try.prog ops Q (o :: rest) a (wr.alloc (.cells #[.int .u8 z] 5)) := by
  obtain ⟨i0, hi, hz0, hz1, hz2⟩ := info_parts Try.info5
  refine wpList_append_fits _ hgd s x 23 hop base 5 i0 1 Try.underlying23 hi hz1 g m cap xs hs (hown.alloc _) ⟨wr.heap.size, 0, none⟩ 1 1 [.int .u8 z] hx rfl ?_ ?_ hfit ?_
  · intro j u hj
    match j, hj with
    | 0, hj => simp at hj; subst hj; simp [Addr.add]
  · intro u hu; simp at hu; subst hu; rfl
  · intro w' h1 h2
    exact hK w' h1 (grownBy_trans (World.grownBy_alloc _ _ _) h2)

/-- append(out, c) where nothing is known of the room: the new value, and where it lies, are the tape's -/
theorem wpList_push_own {wr : World} {ops : Array Oper} {rest : List Oper} {o : Oper} {a : Act} {Q : Exit → Act → World → Prop} (z : Int)
    (hgd : o.guard = none) (s x : Operand) (hop : o.op = Op.call { callee := Callee.builtin Builtin.append, args := #[s, x], argTypes := #[23, 23] })
    (base m : Nat) (v : Value) (xs : List Value) (hs : a.eval s = v) (hx : a.eval x = .slice (some ⟨wr.heap.size, 0, none⟩) 1 1)
    (hown : wr.ownsRow base 5 1 v m xs) (hm : m + 1 ≤ 140737488355328) (hb : base ≤ wr.heap.size)
    (hK : ∀ v' w', w'.ownsRow base 5 1 v' (m + 1) (xs ++ [.int .u8 z]) → Below base wr w' → wpList Try.prog ops Q rest (a.put o.dst v') w') :
    wpList Try.prog ops Q (o :: rest) a (wr.alloc (.cells #[.int .u8 z] 5)) := by
  obtain ⟨i0, hi, hz0, hz1, hz2⟩ := info_parts Try.info5
  refine wpList_append_own _ hgd s x 23 hop base 5 i0 (.int .u8 0) 1 1 Try.underlying23 hi hz0 hz1 hz2 rfl (by omega) v m xs hs (hown.alloc _) ⟨wr.heap.size, 0, none⟩ 1 1 [.int .u8 z] hx rfl ?_ ?_ (by unfold maxLen; omega) (by omega) (by simp; omega) ?_
  · intro j u hj
    match j, hj with
    | 0, hj => simp at hj; subst hj; simp [Addr.add]
  · intro u hu; simp at hu; subst hu; rfl
  · intro v' w' h1 h2 _
    exact hK v' w' h1 (((Below.refl base wr).alloc hb _).grown h2 (by simp; omega) (fun k hk => (hown.lt k hk).1))

/-- what a value that owns bytes is -/
theorem ownsRow_open {w : World} {B n : Nat} {v : Value} {l : List UInt8} (h : w.ownsRow B 5 1 v n (cellsOf l)) : ∃ ad cap, v = .slice ad n cap ∧ Bytes w ad n l ∧ n = l.length ∧ (∀ x, ad = some x → B ≤ x.block ∧ x.block < w.heap.size) := by
  have hll : l.length = n := by have := h.1; rw [cellsOf_length] at this; omega
  rcases h.2 with ⟨rfl, rfl⟩ | ⟨g, cap, cur, rfl, _⟩
  · exact ⟨none, 0, rfl, ⟨hll, fun h0 => by omega⟩, hll.symm, by simp⟩
  · refine ⟨some ⟨g, 0, none⟩, cap, rfl, (ownsRow_bytes h).1, hll.symm, fun x hx => ?_⟩
    obtain rfl := Option.some.inj hx
    exact (ownsRow_bytes h).2

end Go.Proofs.Ytfkepoibgmljkaa
