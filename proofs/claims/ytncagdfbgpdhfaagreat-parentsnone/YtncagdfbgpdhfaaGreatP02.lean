import Derived.Test.YtncagdfbgpdhfaaGreatP01
import Derived.Laws.CopyOwn
import Derived.Test.YtncagdfbgpdhfaaGreatProg
import Derived.Outline
/- The walks of a Reader's methods that need no number's form: Byte, Raw, Err, Left, End; and of Read itself. -/
namespace Go.Proofs.YtncagdfbgpdhfaaGreat
open Go.RowKit

theorem err_any (w : World) (r : Nat) (x : Int) (h : w.cell? ⟨r, 1, none⟩ = some (.int .i64 x)) : Calls Tryz.prog 95 #[.pointer (some ⟨r, 0, none⟩)] w fun e w' => e = .returned (.int .i64 x) ∧ w' = w := by
  go_enter Tryz.func95, Tryz.ntmps95
  go_wp2
  go_ret
  exact ⟨rfl, rfl⟩

theorem left_any (w : World) (r g p m : Nat) (x : Int) (l : List UInt8) (h : Rd w r g p x l) (hm : l.length = p + m) :
    Calls Tryz.prog 92 #[.pointer (some ⟨r, 0, none⟩)] w fun e w' => e = .returned (.int .i64 m) ∧ ∃ k, w' = w.drewN k := by
  have Hm : Hid (l.length = p + m) := hm
  clear hm
  go_enter Tryz.func92, Tryz.ntmps92
  go_wp2_with fail
  refine (rest_any _ r g p m x l h Hm.out).mono ?_
  rintro e w1 ⟨q, k, rfl, hb, rfl⟩
  go_wp2
  go_ret
  exact ⟨rfl, _, rfl⟩

theorem end_err (w : World) (r : Nat) (x : Int) (h : w.cell? ⟨r, 1, none⟩ = some (.int .i64 x)) (hx : (x != 0) = true) : Calls Tryz.prog 130 #[.pointer (some ⟨r, 0, none⟩)] w fun e w' => e = .returned (.int .i64 x) ∧ w' = w := by
  go_enter Tryz.func130, Tryz.ntmps130
  go_wp2_with fail
  refine (err_any _ r x h).mono ?_
  rintro e w1 ⟨rfl, rfl⟩
  go_wp2
  go_ret
  exact ⟨rfl, rfl⟩

theorem end_ok (w : World) (r g p m : Nat) (l : List UInt8) (h : Rd w r g p 0 l) (hm : l.length = p + m) :
    Calls Tryz.prog 130 #[.pointer (some ⟨r, 0, none⟩)] w fun e w' => e = .returned (.int .i64 (if 0 < m then 111 else 0)) ∧ ∃ k, w' = w.drewN k := by
  have Hm : Hid (l.length = p + m) := hm
  clear hm
  by_cases h0 : 0 < m
  · have i1 : (0 : Int) < (m : Int) := by omega
    rw [if_pos h0]
    go_enter Tryz.func130, Tryz.ntmps130
    go_wp2_with fail
    refine (err_any _ r 0 h.c1).mono ?_
    rintro e w1 ⟨rfl, rfl⟩
    go_wp2_with fail
    refine (left_any _ r g p m 0 l h Hm.out).mono ?_
    rintro e w1 ⟨rfl, k, rfl⟩
    go_wp2
    go_ret
    exact ⟨rfl, _, rfl⟩
  · have i1 : ¬ (0 : Int) < (m : Int) := by omega
    rw [if_neg h0]
    go_enter Tryz.func130, Tryz.ntmps130
    go_wp2_with fail
    refine (err_any _ r 0 h.c1).mono ?_
    rintro e w1 ⟨rfl, rfl⟩
    go_wp2_with fail
    refine (left_any _ r g p m 0 l h Hm.out).mono ?_
    rintro e w1 ⟨rfl, k, rfl⟩
    go_wp2
    go_ret
    exact ⟨rfl, _, rfl⟩

theorem byte_stuck (w : World) (r g p : Nat) (x : Int) (l : List UInt8) (h : Rd w r g p x l) (hx : (x != 0) = true) :
    Calls Tryz.prog 126 #[.pointer (some ⟨r, 0, none⟩)] w fun e w' => e = .returned (.int .u8 0) ∧ w' = w := by
  go_enter Tryz.func126, Tryz.ntmps126
  go_wp2_with fail
  refine (take_stuck _ r g p x _ l h hx).mono ?_
  rintro e w1 ⟨rfl, rfl⟩
  go_wp2
  go_ret
  exact ⟨rfl, rfl⟩

theorem byte_short (w : World) (r g p : Nat) (l : List UInt8) (h : Rd w r g p 0 l) (hp : l.length = p) :
    Calls Tryz.prog 126 #[.pointer (some ⟨r, 0, none⟩)] w fun e w' => e = .returned (.int .u8 0) ∧ Rd w' r g p 110 l ∧ w.grownBy w' (some r) := by
  have Hm : Hid (l.length = p + 0) := hp
  clear hp
  go_enter Tryz.func126, Tryz.ntmps126
  go_wp2_with fail
  refine (take_short _ r g p 0 _ l h Hm.out (by simp)).mono ?_
  rintro e w1 ⟨rfl, hr, hg⟩
  go_wp2
  go_ret
  exact ⟨rfl, hr, hg⟩

theorem byte_yes (w : World) (r g p : Nat) (l : List UInt8) (h : Rd w r g p 0 l) (hp : p < l.length) :
    Calls Tryz.prog 126 #[.pointer (some ⟨r, 0, none⟩)] w fun e w' => e = .returned (.int .u8 (bt l p)) ∧ Rd w' r g (p + 1) 0 l ∧ w.grownBy w' (some r) := by
  go_enter Tryz.func126, Tryz.ntmps126
  go_wp2_with fail
  refine (take_yes _ r g p (l.length - p) 1 l h (by omega) (by omega)).mono ?_
  rintro e w1 ⟨a, c, rfl, hb, hr, hg⟩
  obtain ⟨b, off, rfl, hc⟩ := hb.2 (by omega)
  have hc0 := hc 0 (by omega)
  rw [bt_take _ _ _ (by omega), bt_drop] at hc0
  simp only [Nat.add_zero] at hc0
  clear hc hb
  go_wp2
  go_ret
  exact ⟨rfl, hr, hg⟩

end Go.Proofs.YtncagdfbgpdhfaaGreat

/- Bytes turned into a string; what the program says of a byte's type. -/
namespace Go.Proofs.YtncagdfbgpdhfaaGreat
open Go.RowKit

theorem Tryz.info5 : (Tryz.prog.info? 5).map (fun i => (i.zero, i.size, i.bytes)) = some (some (.int .u8 0), 1, 1) := by kernel_rfl

theorem fold_push (l : List UInt8) : ∀ acc : ByteArray, (l.map fun c => (c.toNat : Int)).foldl (fun r n => r.push (UInt8.ofNat n.toNat)) acc = ⟨acc.data ++ l.toArray⟩ := by
  induction l with
  | nil => intro acc; simp
  | cons c l ih =>
    intro acc
    rw [List.map_cons, List.foldl_cons, ih]
    congr 1
    simp [ByteArray.push]

theorem run_string (w : World) (a : Option Addr) (n cap : Nat) (l : List UInt8) (hb : Bytes w a n l) :
    (convert 80 9 (.slice a n cap)).run Tryz.prog w = .ok (.string ⟨l.toArray⟩) w := by
  rw [run_convert_bytes_string w 80 9 5 a n cap Tryz.underlying80 Tryz.underlying5 Tryz.underlying9]
  cases a with
  | none =>
    have h0 : n = 0 := by
      by_cases h : n = 0
      · exact h
      · obtain ⟨b, off, hx, _⟩ := hb.2 (by omega)
        cases hx
    have hl : l = [] := List.eq_nil_of_length_eq_zero (by rw [hb.1]; exact h0)
    subst hl
    simp [Conv.bytesToString, Sem.run_pure]
    rfl
  | some x =>
    have hld : (loadCells x n).run Tryz.prog w = .ok ((l.map fun c => (c.toNat : Int)).map (Value.int .u8)).toArray w := by
      have hrun := run_loadCells_list (P := Tryz.prog) w x (cellsOf l) (fun j v hj => ?_)
      · rw [cellsOf_length, hb.1] at hrun
        rw [hrun]
        simp [cellsOf]
      · have hjl : j < l.length := by have := (List.getElem?_eq_some_iff.1 hj).1; rw [cellsOf_length] at this; exact this
        have hl := hb.1
        obtain ⟨b, off, hx, hc⟩ := hb.2 (by omega)
        obtain rfl := Option.some.inj hx
        rw [cellsOf_get l j hjl] at hj
        rw [Addr.add_lit, hc j (by omega)]
        exact hj
    rw [run_bytesToString w x n cap _ hld, fold_push]
    simp

end Go.Proofs.YtncagdfbgpdhfaaGreat

/- The walks of withRoom (a copy of bytes with room behind them), of Read and of Raw. -/
namespace Go.Proofs.YtncagdfbgpdhfaaGreat
open Go.RowKit


/-- make with a length and a greater capacity, elements of one cell: the new row, whole -/
theorem wpList_make_part {P : Program} (w : World) {ops : Array Oper} {rest : List Oper} {o : Oper} {a : Act} {Q : Exit → Act → World → Prop}
    (hg : o.guard = none) (l c : Operand) (t : TypeId) (hop : o.op = Op.makeSlice t l c)
    (e : TypeId) (i : TypeInfo) (z : Value) (h1 : P.underlying t = some (.slice e)) (h2 : P.info? e = some i) (h3 : i.zero = some z) (h4 : i.size = 1) (h5 : i.bytes = 1)
    (kl kc : IntKind) (n m : Nat) (L C : Int) (hl : a.eval l = .int kl L) (hc : a.eval c = .int kc C) (hL : L = (n : Int)) (hC : C = (m : Int)) (hnm : n ≤ m) (b2 : m ≤ 281474976710656)
    (hK : ∀ w1, Hid (w1.heap[w.heap.size]? = some (.cells (madeCells z.cells m) e (0, 0))) → Below w.heap.size w w1 → wpList P ops Q rest (a.put o.dst (.slice (some ⟨w.heap.size, 0, none⟩) n m)) w1) :
    wpList P ops Q (o :: rest) a w := by
  refine wpList_plain hg fun K hK' => ?_
  have hrun := run_make (P := P) w t e i z h1 h2 h3 kl kc L C (by omega) (by omega) (by rw [h5]; omega) (by omega)
  subst hL
  subst hC
  simp only [h4, Nat.mul_one, Int.toNat_natCast] at hrun
  unfold Oper.wp
  simp [execOp, hop, hl, hc, hrun, Result.andThen]
  exact hK' _ _ (hK _ (heap_alloc_new w _) ((Below.refl _ _).alloc (Nat.le_refl _) _))

theorem grownBy_of_below {w w' : World} (h : Below w.heap.size w w') : w.grownBy w' none := ⟨h.os, h.tape, h.output, h.size, fun k hk _ => h.block k hk⟩

/-- copy into a row just made: the row holds the bytes -/
theorem copy_fill (w w1 : World) (a : Option Addr) (n cap m : Nat) (l : List UInt8) (z : Array Value) (hb : Bytes w a n l) (hnm : n ≤ m) (hm : m ≤ maxLen)
    (hg : w1.heap[w.heap.size]? = some (.cells (madeCells z m) 5 (0, 0))) (hB : Below w.heap.size w w1) :
    ∃ w2, (Builtin.copy_ #[80, 80] 3 #[.slice (some ⟨w.heap.size, 0, none⟩) n m, .slice a n cap]).run Tryz.prog w1 = .ok (goInt n) w2 ∧
      w2.ownsRow w.heap.size 5 1 (.slice (some ⟨w.heap.size, 0, none⟩) n m) n (cellsOf l) ∧ w.grownBy w2 none := by
  obtain ⟨i0, hi, hz0, hz1, hz2⟩ := info_parts Tryz.info5
  have hu := Tryz.underlying80
  have hsz : (Tryz.prog.info? 5).map (·.size) = some 1 := by rw [hi]; simp [hz1]
  have hll : (cellsOf l).length = n := by rw [cellsOf_length, hb.1]
  by_cases h0 : n = 0
  · subst h0
    refine ⟨w1, run_copy_none (P := Tryz.prog) w1 80 80 3 5 _ a 0 m 0 cap hu hsz rfl, ⟨by rw [hll], .inr ⟨w.heap.size, m, _, rfl, Nat.le_refl _, hg, by omega, hm, by rw [size_madeCells]; omega, ?_⟩⟩, grownBy_of_below hB⟩
    have : cellsOf l = [] := List.eq_nil_of_length_eq_zero hll
    rw [this]; simp
  · obtain ⟨b, off, rfl, hc⟩ := hb.2 (by omega)
    have hsrc : ∀ j v, (cellsOf l)[j]? = some v → w1.cell? ((⟨b, off, none⟩ : Addr).add j) = some v := by
      intro j v hj
      have hjl : j < n := by have := (List.getElem?_eq_some_iff.1 hj).1; omega
      rw [cellsOf_get l j (by rw [hb.1]; exact hjl)] at hj
      have hold' : w.cell? ⟨b, off + j, none⟩ = some v := by rw [hc j hjl]; exact hj
      rw [Addr.add_lit, hB.cell (World.block_lt_of_cell? w _ hold')]
      exact hold'
    have hrun := run_copy_row (P := Tryz.prog) w1 80 80 3 5 w.heap.size 0 n m ⟨b, off, none⟩ n cap (madeCells z m) 5 (cellsOf l) hu hsz hg (by rw [hll]; exact (Nat.min_self n).symm) hsrc (by rw [hll, size_madeCells]; omega) (cellsOf_one l)
    refine ⟨_, by rw [hrun, hll], ⟨by rw [hll]; omega, .inr ⟨w.heap.size, m, _, rfl, Nat.le_refl _, setRow_heap w1 _ _ _ _ _ hg, by omega, hm, ?_, ?_⟩⟩, grownBy_of_below (below_setRow hB (Nat.le_refl _) _)⟩
    · simp [size_madeCells, hll]; omega
    · simp [← hll]

set_option maxHeartbeats 400000 in
theorem withRoom_any (a : Option Addr) (n cap more : Nat) (l : List UInt8) (w : World) (hb : Bytes w a n l) (hm : n + more ≤ 281474976710656) :
    Calls Tryz.prog 118 #[.slice a n cap, .int .i64 more] w fun e w' => e = .returned (.slice (some ⟨w.heap.size, 0, none⟩) n (n + more)) ∧
      w'.ownsRow w.heap.size 5 1 (.slice (some ⟨w.heap.size, 0, none⟩) n (n + more)) n (cellsOf l) ∧ w.grownBy w' none := by
  obtain ⟨i0, hi, hz0, hz1, hz2⟩ := info_parts Tryz.info5
  have hu := Tryz.underlying80
  go_enter Tryz.func118, Tryz.ntmps118
  go_wp2_with (at_make; refine wpList_make_part _ rfl _ _ 80 rfl 5 i0 (.int .u8 0) hu hi hz0 hz1 hz2 _ _ n (n + more) _ _ rfl rfl rfl (by omega) (by omega) hm ?_; intro w1 hg1 hb1; obtain ⟨w2, hcp, hfin⟩ := copy_fill w w1 a n cap (n + more) l _ hb (by omega) (by unfold maxLen; omega) hg1.out hb1)
  go_ret
  exact ⟨rfl, hfin⟩

/-- a row that is owned, as bytes -/
theorem ownsRow_bytes {w : World} {B g n cap : Nat} {l : List UInt8} (h : w.ownsRow B 5 1 (.slice (some ⟨g, 0, none⟩) n cap) n (cellsOf l)) : Bytes w (some ⟨g, 0, none⟩) n l ∧ B ≤ g ∧ g < w.heap.size := by
  have hll : l.length = n := by have := h.1; rw [cellsOf_length] at this; omega
  refine ⟨⟨hll, fun _ => ⟨g, 0, rfl, fun i hi => ?_⟩⟩, h.lt g rfl⟩
  have := h.cells (g := g) rfl i _ (cellsOf_get l i (by omega))
  rw [Addr.add_lit] at this
  exact this

set_option maxHeartbeats 400000 in
theorem oread_any (a : Option Addr) (n cap : Nat) (l : List UInt8) (w : World) (hb : Bytes w a n l) (hm : n ≤ 281474976710656) :
    Calls Tryz.prog 91 #[.slice a n cap] w fun e w' => ∃ r g, e = .returned (.pointer (some ⟨r, 0, none⟩)) ∧ w.heap.size ≤ r ∧ w.heap.size ≤ g ∧ Rd w' r g 0 0 l ∧ w.grownBy w' none := by
  go_enter Tryz.func91, Tryz.ntmps91
  go_wp2_with fail
  refine (withRoom_any a n cap 0 l w hb (by omega)).mono ?_
  rintro e w1 ⟨rfl, hown, hg⟩
  go_wp2
  go_ret
  have hll : l.length = n := hb.1
  obtain ⟨hby, _, hlt⟩ := ownsRow_bytes hown
  have hlt' : w.heap.size < w1.heap.size := hlt
  refine ⟨w1.heap.size, w.heap.size, rfl, hg.size, Nat.le_refl _, ?_, grownBy_trans hg (World.grownBy_alloc _ _ _)⟩
  refine ⟨?_, ?_, ?_, ?_, ?_, by omega, by unfold maxLen; omega, by omega, fun i hi => ?_⟩
  · simp
  · simp
  · simp [hll]
  · simp
  · simp
  · obtain ⟨b, off, hb1, hc⟩ := hby.2 (by omega)
    simp only [Option.some.injEq, Addr.mk.injEq, and_true] at hb1
    obtain ⟨rfl, rfl⟩ := hb1
    have := hc i (by omega)
    rw [Nat.zero_add] at this
    exact (World.grownBy_alloc w1 _ none).cell this (by simp)

end Go.Proofs.YtncagdfbgpdhfaaGreat

/- The walks of a Reader's Uint. -/
namespace Go.Proofs.YtncagdfbgpdhfaaGreat
open Go.RowKit

theorem uint_stuck (w : World) (r g p : Nat) (x : Int) (l : List UInt8) (h : Rd w r g p x l) (hx : (x != 0) = true) :
    Calls Tryz.prog 156 #[.pointer (some ⟨r, 0, none⟩)] w fun e w' => e = .returned (.int .u64 0) ∧ w' = w := by
  go_enter Tryz.func156, Tryz.ntmps156
  go_wp2_with fail
  refine (stuck_yes _ r x h.c1 hx).mono ?_
  rintro e w1 ⟨rfl, rfl⟩
  go_wp2
  go_ret
  exact ⟨rfl, rfl⟩

set_option maxHeartbeats 400000 in
theorem uint_yes (w : World) (r g p : Nat) (l : List UInt8) (h : Rd w r g p 0 l) (hn : (num (l.drop p)).2.2 = 0) :
    Calls Tryz.prog 156 #[.pointer (some ⟨r, 0, none⟩)] w fun e w' => e = .returned (.int .u64 (num (l.drop p)).1) ∧ Rd w' r g (p + (num (l.drop p)).2.1) 0 l ∧ w.grownBy w' (some r) := by
  have hp := h.hp
  have hl := h.hl
  have hle := num_le (l.drop p)
  rw [List.length_drop] at hle
  unfold maxLen at hl
  obtain ⟨m, hm⟩ : ∃ m, l.length = p + m := ⟨l.length - p, by omega⟩
  obtain ⟨x, k, e, hnum⟩ : ∃ x k e, num (l.drop p) = (x, k, e) := ⟨_, _, _, rfl⟩
  have hkm : k ≤ m := by rw [hnum] at hle; simp only at hle; omega
  have Hm : Hid (l.length = p + m) := hm
  have Hnum : Hid (num (l.drop p) = (x, k, e)) := hnum
  have hpm : p + m ≤ 9223372036854775807 := by omega
  rw [hnum] at hn
  simp only at hn
  subst hn
  rw [hnum]
  clear hm hnum hle hl hp
  go_enter Tryz.func156, Tryz.ntmps156
  go_wp2_with fail
  refine (stuck_no _ r h.c1).mono ?_
  rintro e w1 ⟨rfl, rfl⟩
  go_wp2_with fail
  refine (rest_any _ r g p m 0 l h Hm.out).mono ?_
  rintro e w2 ⟨q, j, rfl, hb, rfl⟩
  go_wp2_with fail
  refine (shortForm_any _ m m (l.drop p) _ (hb.drewN j) (by unfold maxLen; omega)).mono ?_
  rw [Hnum.out]
  rintro e w3 ⟨rfl, rfl⟩
  go_wp2_with fail
  refine (settle_yes _ r p k (h.drewN j).c0 (h.drewN j).f0 (by omega) (by omega) (by omega)).mono ?_
  rintro e w4 ⟨rfl, rfl⟩
  go_wp2
  go_ret
  exact ⟨rfl, (h.drewN j).setAt (p + k) (by have := Hm.out; omega), grownBy_trans (grownBy_drewN _ _ _) (grownBy_setCell _ _ _ _)⟩

set_option maxHeartbeats 400000 in
theorem uint_no (w : World) (r g p : Nat) (l : List UInt8) (h : Rd w r g p 0 l) (hn : ((num (l.drop p)).2.2 != 0) = true) :
    Calls Tryz.prog 156 #[.pointer (some ⟨r, 0, none⟩)] w fun e w' => e = .returned (.int .u64 0) ∧ Rd w' r g p (num (l.drop p)).2.2 l ∧ w.grownBy w' (some r) := by
  have hp := h.hp
  have hl := h.hl
  unfold maxLen at hl
  obtain ⟨m, hm⟩ : ∃ m, l.length = p + m := ⟨l.length - p, by omega⟩
  obtain ⟨x, k, e, hnum⟩ : ∃ x k e, num (l.drop p) = (x, k, e) := ⟨_, _, _, rfl⟩
  have Hm : Hid (l.length = p + m) := hm
  have Hnum : Hid (num (l.drop p) = (x, k, e)) := hnum
  have hpm : p + m ≤ 9223372036854775807 := by omega
  rw [hnum] at hn
  simp only at hn
  rw [hnum]
  clear hm hnum hl hp
  go_enter Tryz.func156, Tryz.ntmps156
  go_wp2_with fail
  refine (stuck_no _ r h.c1).mono ?_
  rintro e w1 ⟨rfl, rfl⟩
  go_wp2_with fail
  refine (rest_any _ r g p m 0 l h Hm.out).mono ?_
  rintro e w2 ⟨q, j, rfl, hb, rfl⟩
  go_wp2_with fail
  refine (shortForm_any _ m m (l.drop p) _ (hb.drewN j) (by unfold maxLen; omega)).mono ?_
  rw [Hnum.out]
  rintro e w3 ⟨rfl, rfl⟩
  go_wp2_with fail
  refine (settle_no _ r k _ _ (h.drewN j).c1 (h.drewN j).f1 hn).mono ?_
  rintro e w4 ⟨rfl, rfl⟩
  go_wp2
  go_ret
  exact ⟨rfl, (h.drewN j).setErr _, grownBy_trans (grownBy_drewN _ _ _) (grownBy_setCell _ _ _ _)⟩

end Go.Proofs.YtncagdfbgpdhfaaGreat

/- Plain facts on the wide form that is read and on a text's bounds; nothing of the program is named here. -/
namespace Go.Proofs.YtncagdfbgpdhfaaGreat
open Go.RowKit

/-- the number that the first k bytes make, the highest first -/
def wideVal (l : List UInt8) : Nat → Int
  | 0 => 0
  | k + 1 => wideVal l k * 256 + bt l k
theorem wideVal_succ (l : List UInt8) (k : Nat) : wideVal l (k + 1) = wideVal l k * 256 + bt l k := rfl
theorem wideVal_lo (l : List UInt8) (k : Nat) : 0 ≤ wideVal l k := by
  induction k with
  | zero => simp [wideVal]
  | succ k ih => rw [wideVal_succ]; have := bt_lo l k; omega
theorem wideVal_hi (l : List UInt8) (k : Nat) : wideVal l k < 256 ^ k := by
  induction k with
  | zero => simp [wideVal]
  | succ k ih =>
    rw [wideVal_succ, Int.pow_succ]
    have := bt_hi l k
    omega
theorem pow256_7 (k : Nat) (h : k ≤ 7) : (256 : Int) ^ k ≤ 72057594037927936 := by
  have h9 : (256 : Int) ^ 7 = 72057594037927936 := by decide
  rw [← h9]
  have hn : (256 : Nat) ^ k ≤ 256 ^ 7 := Nat.pow_le_pow_right (by omega) h
  have e : ∀ j : Nat, (256 : Int) ^ j = ((256 ^ j : Nat) : Int) := by
    intro j
    simp
  rw [e, e]
  exact Int.ofNat_le.2 hn
theorem wideVal_7 (l : List UInt8) (k : Nat) (h : k ≤ 7) : wideVal l k < 72057594037927936 := by
  have := wideVal_hi l k
  have := pow256_7 k h
  omega
theorem wideVal_fits (l : List UInt8) (k : Nat) (h : k ≤ 8) : wideVal l k ≤ 18446744073709551615 := by
  cases k with
  | zero => simp [wideVal]
  | succ k =>
    rw [wideVal_succ]
    have := wideVal_7 l k (by omega)
    have := bt_hi l k
    omega
theorem shl8 (x v : Int) (h0 : 0 ≤ x) (h1 : x < 72057594037927936) (v0 : 0 ≤ v) (v1 : v ≤ 255) : bits BinOp.or IntKind.u64 (x * 256) v = x * 256 + v :=
  bits_join .u64 64 (by decide) wraps64 8 (x * 256) v (by omega) (by omega) (by omega) v0 (by omega) (by omega)

/-- where a text begins, and ends, whose form l begins with; or why there is none -/
def txt (l : List UInt8) (most : Int) : Nat × Nat × Int :=
  if most < 0 then (0, 0, 2)
  else if (num l).2.2 ≠ 0 then (0, 0, (num l).2.2)
  else if most < (num l).1 then (0, 0, 3)
  else if ((l.length - (num l).2.1 : Nat) : Int) < (num l).1 then (0, 0, 110)
  else ((num l).2.1, (num l).2.1 + (num l).1.toNat, 0)

theorem txt_arg (l : List UInt8) (most : Int) (h : most < 0) : txt l most = (0, 0, 2) := by rw [txt, if_pos h]
theorem txt_num (l : List UInt8) (most : Int) (h : ¬ most < 0) (hn : (num l).2.2 ≠ 0) : txt l most = (0, 0, (num l).2.2) := by rw [txt, if_neg h, if_pos hn]
theorem txt_long (l : List UInt8) (most : Int) (h : ¬ most < 0) (hn : (num l).2.2 = 0) (hl : most < (num l).1) : txt l most = (0, 0, 3) := by rw [txt, if_neg h, if_neg (by simpa using hn), if_pos hl]
theorem txt_short (l : List UInt8) (most : Int) (h : ¬ most < 0) (hn : (num l).2.2 = 0) (hl : ¬ most < (num l).1) (hs : ((l.length - (num l).2.1 : Nat) : Int) < (num l).1) : txt l most = (0, 0, 110) := by
  rw [txt, if_neg h, if_neg (by simpa using hn), if_neg hl, if_pos hs]
theorem txt_ok (l : List UInt8) (most : Int) (h : ¬ most < 0) (hn : (num l).2.2 = 0) (hl : ¬ most < (num l).1) (hs : ¬ ((l.length - (num l).2.1 : Nat) : Int) < (num l).1) : txt l most = ((num l).2.1, (num l).2.1 + (num l).1.toNat, 0) := by
  rw [txt, if_neg h, if_neg (by simpa using hn), if_neg hl, if_neg hs]

theorem txt_bounds (l : List UInt8) (most : Int) : (txt l most).1 ≤ (txt l most).2.1 ∧ (txt l most).2.1 ≤ l.length := by
  have h1 := num_le l
  have h2 := num_fits l
  unfold txt
  split
  · simp
  · split
    · simp
    · split
      · simp
      · split
        · simp
        · simp only
          omega

end Go.Proofs.YtncagdfbgpdhfaaGreat

/- The walks of a Reader's Word, Raw and Text. -/
namespace Go.Proofs.YtncagdfbgpdhfaaGreat
open Go.RowKit

set_option maxHeartbeats 400000 in
theorem wideForm_any (a : Option Addr) (n cap : Nat) (l : List UInt8) (w : World) (hb : Bytes w a n l) (hm : n ≤ 8) :
    Calls Tryz.prog 124 #[.slice a n cap] w fun e w' => e = .returned (.int .u64 (wideVal l n)) ∧ w' = w := by
  obtain ⟨hl, hc⟩ := hb
  go_enter Tryz.func124, Tryz.ntmps124
  go_wp2
  go_loop [3, 8] (fun h i => ∃ k : Nat, k ≤ n ∧ i = .int .i64 k ∧ h = .int .u64 (wideVal l k)) (fun _ i => n - (intOf i).toNat)
  case atStart => exact ⟨0, Nat.zero_le _, rfl, rfl⟩
  case round =>
    obtain ⟨k, hk, rfl, rfl⟩ := hrel
    by_cases hlt : k < n
    · obtain ⟨b, off, rfl, hcell⟩ := hc (by omega)
      have hck := hcell k hlt
      have b0 := bt_lo l k
      have b1 := bt_hi l k
      have h0 := wideVal_lo l k
      have h1 := wideVal_7 l k (by omega)
      have HS : Hid (bits BinOp.or IntKind.u64 (wideVal l k * 256) (bt l k) = wideVal l (k + 1)) := by rw [shl8 _ _ h0 h1 b0 b1]; rfl
      clear hcell hc
      go_wp2
      go_round
      case rel => exact ⟨k + 1, by omega, by go_num, by rw [HS.out]⟩
      case measure => simp [intOf]; omega
    · go_wp2
      go_ret
      obtain rfl : k = n := by omega
      exact ⟨rfl, rfl⟩

theorem word_stuck (w : World) (r g p : Nat) (x : Int) (l : List UInt8) (h : Rd w r g p x l) (hx : (x != 0) = true) :
    Calls Tryz.prog 94 #[.pointer (some ⟨r, 0, none⟩)] w fun e w' => e = .returned (.int .u64 0) ∧ w' = w := by
  go_enter Tryz.func94, Tryz.ntmps94
  go_wp2_with fail
  refine (take_stuck _ r g p x _ l h hx).mono ?_
  rintro e w1 ⟨rfl, rfl⟩
  go_wp2
  go_ret
  exact ⟨rfl, rfl⟩

theorem word_short (w : World) (r g p m : Nat) (l : List UInt8) (h : Rd w r g p 0 l) (hm : l.length = p + m) (h8 : m < 8) :
    Calls Tryz.prog 94 #[.pointer (some ⟨r, 0, none⟩)] w fun e w' => e = .returned (.int .u64 0) ∧ Rd w' r g p 110 l ∧ w.grownBy w' (some r) := by
  have Hm : Hid (l.length = p + m) := hm
  clear hm
  go_enter Tryz.func94, Tryz.ntmps94
  go_wp2_with fail
  refine (take_short _ r g p m _ l h Hm.out (by omega)).mono ?_
  rintro e w1 ⟨rfl, hr, hg⟩
  go_wp2
  go_ret
  exact ⟨rfl, hr, hg⟩

theorem word_yes (w : World) (r g p m : Nat) (l : List UInt8) (h : Rd w r g p 0 l) (hm : l.length = p + m) (h8 : ¬ m < 8) :
    Calls Tryz.prog 94 #[.pointer (some ⟨r, 0, none⟩)] w fun e w' => e = .returned (.int .u64 (wideVal ((l.drop p).take 8) 8)) ∧ Rd w' r g (p + 8) 0 l ∧ w.grownBy w' (some r) := by
  have Hm : Hid (l.length = p + m) := hm
  clear hm
  go_enter Tryz.func94, Tryz.ntmps94
  go_wp2_with fail
  refine (take_yes _ r g p m 8 l h Hm.out (by omega)).mono ?_
  rintro e w1 ⟨a, c, rfl, hb, hr, hg⟩
  go_wp2_with fail
  refine (wideForm_any a 8 c _ _ hb (by omega)).mono ?_
  rintro e w2 ⟨rfl, rfl⟩
  go_wp2
  go_ret
  exact ⟨rfl, hr, hg⟩

end Go.Proofs.YtncagdfbgpdhfaaGreat
