import Derived.Test.YtncagdfbgpdhfaaGreatQ01
import Derived.Test.YtncagdfbgpdhfaaGreatProg
import Derived.Outline
import Derived.WalkKit
import Derived.Tactics
import Derived.Tactics2
import Derived.Defers
import Derived.Recover
import Derived.Laws.Pointers
import Derived.RangeFuncBox
/- The walks of withRoom (a copy of bytes with room behind them), of Read and of Raw. -/
namespace Go.Proofs.YtncagdfbgpdhfaaGreat
open Go.RowKit


/-- make with a length and a greater capacity, elements of one cell: the new row, whole -/
theorem wpList_make_part {P : Program} (w : World) {ops : Array Oper} {rest : List Oper} {o : Oper} {a : Act} {Q : Exit → Act → World → Prop}
    (hg : o.guard = none) (l c : Operand) (t : TypeId) (hop : o.op = Op.makeSlice t l c)
    (e : TypeId) (i : TypeInfo) (z : Value) (h1 : P.underlying t = some (.slice e)) (h2 : P.info? e = some i) (h3 : i.zero = some z) (h4 : i.size = 1) (h5 : i.bytes = 1)
    (kl kc : IntKind) (n m : Nat) (L C : Int) (hl : a.eval l = .int kl L) (hc : a.eval c = .int kc C) (hL : L = (n : Int)) (hC : C = (m : Int)) (hnm : n ≤ m) (b2 : m ≤ 281474976710656)
    (hK : ∀ w1, Hid (w1.heap[w.heap.size]? = some (.cells (madeCells z.cells m) e (0, 0))) → Below w.heap.size w w1 → wpList P ops Q rest (a.put o.dst (.slice (some ⟨w.heap.size, 0, none⟩) n m)) w1) :
    wpList P ops Q (o :: rest) a w := by
  refine wpList_plain hg fun K hK' => ?_
  have hrun := run_make (P := P) w t e i z h1 h2 h3 kl kc L C (by omega) (by omega) (by rw [h5]; omega) (by omega)
  subst hL
  subst hC
  simp only [h4, Nat.mul_one, Int.toNat_natCast] at hrun
  unfold Oper.wp
  simp [execOp, hop, hl, hc, hrun, Result.andThen]
  exact hK' _ _ (hK _ (heap_alloc_new w _) ((Below.refl _ _).alloc (Nat.le_refl _) _))

theorem grownBy_of_below {w w' : World} (h : Below w.heap.size w w') : w.grownBy w' none := ⟨h.os, h.tape, h.output, h.size, fun k hk _ => h.block k hk⟩

theorem size_made (z : Array Value) (n : Nat) : (madeCells z n).toList.length = n := by rw [Array.length_toList, size_madeCells]

/-- copy into a row just made: the row holds the bytes -/
theorem copy_fill (w w1 : World) (a : Option Addr) (n cap m : Nat) (l : List UInt8) (z : Array Value) (hb : Bytes w a n l) (hnm : n ≤ m) (hm : m ≤ maxLen)
    (hg : w1.heap[w.heap.size]? = some (.cells (madeCells z m) 5 (0, 0))) (hB : Below w.heap.size w w1) :
    ∃ w2, (Builtin.copy_ #[80, 80] 3 #[.slice (some ⟨w.heap.size, 0, none⟩) n m, .slice a n cap]).run Tryz.prog w1 = .ok (goInt n) w2 ∧
      w2.ownsRow w.heap.size 5 1 (.slice (some ⟨w.heap.size, 0, none⟩) n m) n (cellsOf l) ∧ w.grownBy w2 none := by
  obtain ⟨i0, hi, hz0, hz1, hz2⟩ := info_parts Tryz.info5
  have hu := Tryz.underlying80
  have hsz : (Tryz.prog.info? 5).map (·.size) = some 1 := by rw [hi]; simp [hz1]
  have hll : (cellsOf l).length = n := by rw [cellsOf_length, hb.1]
  by_cases h0 : n = 0
  · subst h0
    refine ⟨w1, run_copy_none (P := Tryz.prog) w1 80 80 3 5 _ a 0 m 0 cap hu hsz rfl, ⟨by rw [hll], .inr ⟨w.heap.size, m, _, rfl, Nat.le_refl _, hg, by omega, hm, by rw [size_madeCells]; omega, ?_⟩⟩, grownBy_of_below hB⟩
    have : cellsOf l = [] := List.eq_nil_of_length_eq_zero hll
    rw [this]; simp
  · obtain ⟨b, off, rfl, hc⟩ := hb.2 (by omega)
    have hsrc : ∀ j v, (cellsOf l)[j]? = some v → w1.cell? ((⟨b, off, none⟩ : Addr).add j) = some v := by
      intro j v hj
      have hjl : j < n := by have := (List.getElem?_eq_some_iff.1 hj).1; omega
      rw [cellsOf_get l j (by rw [hb.1]; exact hjl)] at hj
      have hold' : w.cell? ⟨b, off + j, none⟩ = some v := by rw [hc j hjl]; exact hj
      rw [Addr.add_lit, hB.cell (World.block_lt_of_cell? w _ hold')]
      exact hold'
    have hrun := run_copy_row (P := Tryz.prog) w1 80 80 3 5 w.heap.size 0 n m ⟨b, off, none⟩ n cap (madeCells z m) 5 (cellsOf l) hu hsz hg (by rw [hll]; exact (Nat.min_self n).symm) hsrc (by rw [hll, size_madeCells]; omega) (cellsOf_one l)
    refine ⟨_, by rw [hrun, hll], ⟨by rw [hll]; omega, .inr ⟨w.heap.size, m, _, rfl, Nat.le_refl _, setRow_heap w1 _ _ _ _ _ hg, by omega, hm, ?_, ?_⟩⟩, grownBy_of_below (below_setRow hB (Nat.le_refl _) _)⟩
    · simp [size_madeCells, hll]; omega
    · simp [← hll]

set_option maxHeartbeats 400000 in
theorem withRoom_any (a : Option Addr) (n cap more : Nat) (l : List UInt8) (w : World) (hb : Bytes w a n l) (hm : n + more ≤ 281474976710656) :
    Calls Tryz.prog 118 #[.slice a n cap, .int .i64 more] w fun e w' => e = .returned (.slice (some ⟨w.heap.size, 0, none⟩) n (n + more)) ∧
      w'.ownsRow w.heap.size 5 1 (.slice (some ⟨w.heap.size, 0, none⟩) n (n + more)) n (cellsOf l) ∧ w.grownBy w' none := by
  obtain ⟨i0, hi, hz0, hz1, hz2⟩ := info_parts Tryz.info5
  have hu := Tryz.underlying80
  go_enter Tryz.func118, Tryz.ntmps118
  go_wp2_with (at_make; refine wpList_make_part _ rfl _ _ 80 rfl 5 i0 (.int .u8 0) hu hi hz0 hz1 hz2 _ _ n (n + more) _ _ rfl rfl rfl (by omega) (by omega) hm ?_; intro w1 hg1 hb1; obtain ⟨w2, hcp, hfin⟩ := copy_fill w w1 a n cap (n + more) l _ hb (by omega) (by unfold maxLen; omega) hg1.out hb1)
  go_ret
  exact ⟨rfl, hfin⟩

/-- a row that is owned, as bytes -/
theorem ownsRow_bytes {w : World} {B g n cap : Nat} {l : List UInt8} (h : w.ownsRow B 5 1 (.slice (some ⟨g, 0, none⟩) n cap) n (cellsOf l)) : Bytes w (some ⟨g, 0, none⟩) n l ∧ B ≤ g ∧ g < w.heap.size := by
  have hll : l.length = n := by have := h.1; rw [cellsOf_length] at this; omega
  refine ⟨⟨hll, fun _ => ⟨g, 0, rfl, fun i hi => ?_⟩⟩, h.lt g rfl⟩
  have := h.cells (g := g) rfl i _ (cellsOf_get l i (by omega))
  rw [Addr.add_lit] at this
  exact this

set_option maxHeartbeats 400000 in
theorem oread_any (a : Option Addr) (n cap : Nat) (l : List UInt8) (w : World) (hb : Bytes w a n l) (hm : n ≤ 281474976710656) :
    Calls Tryz.prog 91 #[.slice a n cap] w fun e w' => ∃ r g, e = .returned (.pointer (some ⟨r, 0, none⟩)) ∧ w.heap.size ≤ r ∧ w.heap.size ≤ g ∧ Rd w' r g 0 0 l ∧ w.grownBy w' none := by
  go_enter Tryz.func91, Tryz.ntmps91
  go_wp2_with fail
  refine (withRoom_any a n cap 0 l w hb (by omega)).mono ?_
  rintro e w1 ⟨rfl, hown, hg⟩
  go_wp2
  go_ret
  have hll : l.length = n := hb.1
  obtain ⟨hby, _, hlt⟩ := ownsRow_bytes hown
  have hlt' : w.heap.size < w1.heap.size := hlt
  refine ⟨w1.heap.size, w.heap.size, rfl, hg.size, Nat.le_refl _, ?_, grownBy_trans hg (World.grownBy_alloc _ _ _)⟩
  refine ⟨?_, ?_, ?_, ?_, ?_, by omega, by unfold maxLen; omega, by omega, fun i hi => ?_⟩
  · simp
  · simp
  · simp [hll]
  · simp
  · simp
  · obtain ⟨b, off, hb1, hc⟩ := hby.2 (by omega)
    simp only [Option.some.injEq, Addr.mk.injEq, and_true] at hb1
    obtain ⟨rfl, rfl⟩ := hb1
    have := hc i (by omega)
    rw [Nat.zero_add] at this
    exact (World.grownBy_alloc w1 _ none).cell this (by simp)

end Go.Proofs.YtncagdfbgpdhfaaGreat

/- The walks of a Reader's Uint. -/
namespace Go.Proofs.YtncagdfbgpdhfaaGreat
open Go.RowKit

theorem uint_nil (w : World) : Calls Tryz.prog 156 #[.pointer none] w fun e w' => e = .returned (.int .u64 0) ∧ w' = w := by
  go_enter Tryz.func156, Tryz.ntmps156
  go_wp2_with fail
  refine (stuck_nil _).mono ?_
  rintro e w1 ⟨rfl, rfl⟩
  go_wp2
  go_ret
  exact ⟨rfl, rfl⟩

theorem uint_stuck (w : World) (r g p : Nat) (x : Int) (l : List UInt8) (h : Rd w r g p x l) (hx : (x != 0) = true) :
    Calls Tryz.prog 156 #[.pointer (some ⟨r, 0, none⟩)] w fun e w' => e = .returned (.int .u64 0) ∧ w' = w := by
  go_enter Tryz.func156, Tryz.ntmps156
  go_wp2_with fail
  refine (stuck_yes _ r x h.c1 hx).mono ?_
  rintro e w1 ⟨rfl, rfl⟩
  go_wp2
  go_ret
  exact ⟨rfl, rfl⟩

set_option maxHeartbeats 400000 in
theorem uint_yes (w : World) (r g p : Nat) (l : List UInt8) (h : Rd w r g p 0 l) (hn : (num (l.drop p)).2.2 = 0) :
    Calls Tryz.prog 156 #[.pointer (some ⟨r, 0, none⟩)] w fun e w' => e = .returned (.int .u64 (num (l.drop p)).1) ∧ Rd w' r g (p + (num (l.drop p)).2.1) 0 l ∧ w.grownBy w' (some r) := by
  have hp := h.hp
  have hl := h.hl
  have hle := num_le (l.drop p)
  rw [List.length_drop] at hle
  unfold maxLen at hl
  obtain ⟨m, hm⟩ : ∃ m, l.length = p + m := ⟨l.length - p, by omega⟩
  obtain ⟨x, k, e, hnum⟩ : ∃ x k e, num (l.drop p) = (x, k, e) := ⟨_, _, _, rfl⟩
  have hkm : k ≤ m := by rw [hnum] at hle; simp only at hle; omega
  have Hm : Hid (l.length = p + m) := hm
  have Hnum : Hid (num (l.drop p) = (x, k, e)) := hnum
  have hpm : p + m ≤ 9223372036854775807 := by omega
  rw [hnum] at hn
  simp only at hn
  subst hn
  rw [hnum]
  clear hm hnum hle hl hp
  go_enter Tryz.func156, Tryz.ntmps156
  go_wp2_with fail
  refine (stuck_no _ r h.c1).mono ?_
  rintro e w1 ⟨rfl, rfl⟩
  go_wp2_with fail
  refine (rest_any _ r g p m 0 l h Hm.out).mono ?_
  rintro e w2 ⟨q, j, rfl, hb, rfl⟩
  go_wp2_with fail
  refine (shortForm_any _ m m (l.drop p) _ (hb.drewN j) (by unfold maxLen; omega)).mono ?_
  rw [Hnum.out]
  rintro e w3 ⟨rfl, rfl⟩
  go_wp2_with fail
  refine (settle_yes _ r p k (h.drewN j).c0 (h.drewN j).f0 (by omega) (by omega) (by omega)).mono ?_
  rintro e w4 ⟨rfl, rfl⟩
  go_wp2
  go_ret
  exact ⟨rfl, (h.drewN j).setAt (p + k) (by have := Hm.out; omega), grownBy_trans (grownBy_drewN _ _ _) (grownBy_setCell _ _ _ _)⟩

set_option maxHeartbeats 400000 in
theorem uint_no (w : World) (r g p : Nat) (l : List UInt8) (h : Rd w r g p 0 l) (hn : ((num (l.drop p)).2.2 != 0) = true) :
    Calls Tryz.prog 156 #[.pointer (some ⟨r, 0, none⟩)] w fun e w' => e = .returned (.int .u64 0) ∧ Rd w' r g p (num (l.drop p)).2.2 l ∧ w.grownBy w' (some r) := by
  have hp := h.hp
  have hl := h.hl
  unfold maxLen at hl
  obtain ⟨m, hm⟩ : ∃ m, l.length = p + m := ⟨l.length - p, by omega⟩
  obtain ⟨x, k, e, hnum⟩ : ∃ x k e, num (l.drop p) = (x, k, e) := ⟨_, _, _, rfl⟩
  have Hm : Hid (l.length = p + m) := hm
  have Hnum : Hid (num (l.drop p) = (x, k, e)) := hnum
  have hpm : p + m ≤ 9223372036854775807 := by omega
  rw [hnum] at hn
  simp only at hn
  rw [hnum]
  clear hm hnum hl hp
  go_enter Tryz.func156, Tryz.ntmps156
  go_wp2_with fail
  refine (stuck_no _ r h.c1).mono ?_
  rintro e w1 ⟨rfl, rfl⟩
  go_wp2_with fail
  refine (rest_any _ r g p m 0 l h Hm.out).mono ?_
  rintro e w2 ⟨q, j, rfl, hb, rfl⟩
  go_wp2_with fail
  refine (shortForm_any _ m m (l.drop p) _ (hb.drewN j) (by unfold maxLen; omega)).mono ?_
  rw [Hnum.out]
  rintro e w3 ⟨rfl, rfl⟩
  go_wp2_with fail
  refine (settle_no _ r k _ _ (h.drewN j).c1 (h.drewN j).f1 hn).mono ?_
  rintro e w4 ⟨rfl, rfl⟩
  go_wp2
  go_ret
  exact ⟨rfl, (h.drewN j).setErr _, grownBy_trans (grownBy_drewN _ _ _) (grownBy_setCell _ _ _ _)⟩

end Go.Proofs.YtncagdfbgpdhfaaGreat

/- Plain facts on the wide form that is read and on a text's bounds; nothing of the program is named here. -/
namespace Go.Proofs.YtncagdfbgpdhfaaGreat
open Go.RowKit

/-- the number that the first k bytes make, the highest first -/
def wideVal (l : List UInt8) : Nat → Int
  | 0 => 0
  | k + 1 => wideVal l k * 256 + bt l k
theorem wideVal_succ (l : List UInt8) (k : Nat) : wideVal l (k + 1) = wideVal l k * 256 + bt l k := rfl
theorem wideVal_lo (l : List UInt8) (k : Nat) : 0 ≤ wideVal l k := by
  induction k with
  | zero => simp [wideVal]
  | succ k ih => rw [wideVal_succ]; have := bt_lo l k; omega
theorem wideVal_hi (l : List UInt8) (k : Nat) : wideVal l k < 256 ^ k := by
  induction k with
  | zero => simp [wideVal]
  | succ k ih =>
    rw [wideVal_succ, Int.pow_succ]
    have := bt_hi l k
    omega
theorem pow256_7 (k : Nat) (h : k ≤ 7) : (256 : Int) ^ k ≤ 72057594037927936 := by
  have h9 : (256 : Int) ^ 7 = 72057594037927936 := by decide
  rw [← h9]
  have hn : (256 : Nat) ^ k ≤ 256 ^ 7 := Nat.pow_le_pow_right (by omega) h
  have e : ∀ j : Nat, (256 : Int) ^ j = ((256 ^ j : Nat) : Int) := by
    intro j
    simp
  rw [e, e]
  exact Int.ofNat_le.2 hn
theorem wideVal_7 (l : List UInt8) (k : Nat) (h : k ≤ 7) : wideVal l k < 72057594037927936 := by
  have := wideVal_hi l k
  have := pow256_7 k h
  omega
theorem wideVal_fits (l : List UInt8) (k : Nat) (h : k ≤ 8) : wideVal l k ≤ 18446744073709551615 := by
  cases k with
  | zero => simp [wideVal]
  | succ k =>
    rw [wideVal_succ]
    have := wideVal_7 l k (by omega)
    have := bt_hi l k
    omega
theorem shl8 (x v : Int) (h0 : 0 ≤ x) (h1 : x < 72057594037927936) (v0 : 0 ≤ v) (v1 : v ≤ 255) : bits BinOp.or IntKind.u64 (x * 256) v = x * 256 + v :=
  bits_join .u64 64 (by decide) wraps64 8 (x * 256) v (by omega) (by omega) (by omega) v0 (by omega) (by omega)

/-- where a text begins, and ends, whose form l begins with; or why there is none -/
def txt (l : List UInt8) (most : Int) : Nat × Nat × Int :=
  if most < 0 then (0, 0, 2)
  else if (num l).2.2 ≠ 0 then (0, 0, (num l).2.2)
  else if most < (num l).1 then (0, 0, 3)
  else if ((l.length - (num l).2.1 : Nat) : Int) < (num l).1 then (0, 0, 110)
  else ((num l).2.1, (num l).2.1 + (num l).1.toNat, 0)

theorem txt_arg (l : List UInt8) (most : Int) (h : most < 0) : txt l most = (0, 0, 2) := by rw [txt, if_pos h]
theorem txt_num (l : List UInt8) (most : Int) (h : ¬ most < 0) (hn : (num l).2.2 ≠ 0) : txt l most = (0, 0, (num l).2.2) := by rw [txt, if_neg h, if_pos hn]
theorem txt_long (l : List UInt8) (most : Int) (h : ¬ most < 0) (hn : (num l).2.2 = 0) (hl : most < (num l).1) : txt l most = (0, 0, 3) := by rw [txt, if_neg h, if_neg (by simpa using hn), if_pos hl]
theorem txt_short (l : List UInt8) (most : Int) (h : ¬ most < 0) (hn : (num l).2.2 = 0) (hl : ¬ most < (num l).1) (hs : ((l.length - (num l).2.1 : Nat) : Int) < (num l).1) : txt l most = (0, 0, 110) := by
  rw [txt, if_neg h, if_neg (by simpa using hn), if_neg hl, if_pos hs]
theorem txt_ok (l : List UInt8) (most : Int) (h : ¬ most < 0) (hn : (num l).2.2 = 0) (hl : ¬ most < (num l).1) (hs : ¬ ((l.length - (num l).2.1 : Nat) : Int) < (num l).1) : txt l most = ((num l).2.1, (num l).2.1 + (num l).1.toNat, 0) := by
  rw [txt, if_neg h, if_neg (by simpa using hn), if_neg hl, if_neg hs]

theorem txt_bounds (l : List UInt8) (most : Int) : (txt l most).1 ≤ (txt l most).2.1 ∧ (txt l most).2.1 ≤ l.length := by
  have h1 := num_le l
  have h2 := num_fits l
  unfold txt
  split
  · simp
  · split
    · simp
    · split
      · simp
      · split
        · simp
        · simp only
          omega

end Go.Proofs.YtncagdfbgpdhfaaGreat

/- The walks of a Reader's Word, Raw and Text. -/
namespace Go.Proofs.YtncagdfbgpdhfaaGreat
open Go.RowKit

set_option maxHeartbeats 400000 in
theorem wideForm_any (a : Option Addr) (n cap : Nat) (l : List UInt8) (w : World) (hb : Bytes w a n l) (hm : n ≤ 8) :
    Calls Tryz.prog 124 #[.slice a n cap] w fun e w' => e = .returned (.int .u64 (wideVal l n)) ∧ w' = w := by
  obtain ⟨hl, hc⟩ := hb
  go_enter Tryz.func124, Tryz.ntmps124
  go_wp2
  go_loop [3, 8] (fun h i => ∃ k : Nat, k ≤ n ∧ i = .int .i64 k ∧ h = .int .u64 (wideVal l k)) (fun _ i => n - (intOf i).toNat)
  case atStart => exact ⟨0, Nat.zero_le _, rfl, rfl⟩
  case round =>
    obtain ⟨k, hk, rfl, rfl⟩ := hrel
    by_cases hlt : k < n
    · obtain ⟨b, off, rfl, hcell⟩ := hc (by omega)
      have hck := hcell k hlt
      have b0 := bt_lo l k
      have b1 := bt_hi l k
      have h0 := wideVal_lo l k
      have h1 := wideVal_7 l k (by omega)
      have HS : Hid (bits BinOp.or IntKind.u64 (wideVal l k * 256) (bt l k) = wideVal l (k + 1)) := by rw [shl8 _ _ h0 h1 b0 b1]; rfl
      clear hcell hc
      go_wp2
      go_round
      case rel => exact ⟨k + 1, by omega, by go_num, by rw [HS.out]⟩
      case measure => simp [intOf]; omega
    · go_wp2
      go_ret
      obtain rfl : k = n := by omega
      exact ⟨rfl, rfl⟩

theorem word_stuck (w : World) (r g p : Nat) (x : Int) (l : List UInt8) (h : Rd w r g p x l) (hx : (x != 0) = true) :
    Calls Tryz.prog 94 #[.pointer (some ⟨r, 0, none⟩)] w fun e w' => e = .returned (.int .u64 0) ∧ w' = w := by
  go_enter Tryz.func94, Tryz.ntmps94
  go_wp2_with fail
  refine (take_stuck _ r g p x _ l h hx).mono ?_
  rintro e w1 ⟨rfl, rfl⟩
  go_wp2
  go_ret
  exact ⟨rfl, rfl⟩

theorem word_short (w : World) (r g p m : Nat) (l : List UInt8) (h : Rd w r g p 0 l) (hm : l.length = p + m) (h8 : m < 8) :
    Calls Tryz.prog 94 #[.pointer (some ⟨r, 0, none⟩)] w fun e w' => e = .returned (.int .u64 0) ∧ Rd w' r g p 110 l ∧ w.grownBy w' (some r) := by
  have Hm : Hid (l.length = p + m) := hm
  clear hm
  go_enter Tryz.func94, Tryz.ntmps94
  go_wp2_with fail
  refine (take_short _ r g p m _ l h Hm.out (by omega)).mono ?_
  rintro e w1 ⟨rfl, hr, hg⟩
  go_wp2
  go_ret
  exact ⟨rfl, hr, hg⟩

theorem word_yes (w : World) (r g p m : Nat) (l : List UInt8) (h : Rd w r g p 0 l) (hm : l.length = p + m) (h8 : ¬ m < 8) :
    Calls Tryz.prog 94 #[.pointer (some ⟨r, 0, none⟩)] w fun e w' => e = .returned (.int .u64 (wideVal ((l.drop p).take 8) 8)) ∧ Rd w' r g (p + 8) 0 l ∧ w.grownBy w' (some r) := by
  have Hm : Hid (l.length = p + m) := hm
  clear hm
  go_enter Tryz.func94, Tryz.ntmps94
  go_wp2_with fail
  refine (take_yes _ r g p m 8 l h Hm.out (by omega)).mono ?_
  rintro e w1 ⟨a, c, rfl, hb, hr, hg⟩
  go_wp2_with fail
  refine (wideForm_any a 8 c _ _ hb (by omega)).mono ?_
  rintro e w2 ⟨rfl, rfl⟩
  go_wp2
  go_ret
  exact ⟨rfl, hr, hg⟩

theorem raw_stuck (w : World) (r g p : Nat) (x n : Int) (l : List UInt8) (h : Rd w r g p x l) (hx : (x != 0) = true) :
    Calls Tryz.prog 127 #[.pointer (some ⟨r, 0, none⟩), .int .i64 n] w fun e w' => e = .returned (.slice none 0 0) ∧ w' = w := by
  go_enter Tryz.func127, Tryz.ntmps127
  go_wp2_with fail
  refine (take_stuck _ r g p x _ l h hx).mono ?_
  rintro e w1 ⟨rfl, rfl⟩
  go_wp2
  go_ret
  exact ⟨rfl, rfl⟩

theorem raw_arg (w : World) (r g p m : Nat) (n : Int) (l : List UInt8) (h : Rd w r g p 0 l) (hm : l.length = p + m) (hn : n < 0) :
    Calls Tryz.prog 127 #[.pointer (some ⟨r, 0, none⟩), .int .i64 n] w fun e w' => e = .returned (.slice none 0 0) ∧ Rd w' r g p 2 l ∧ w.grownBy w' (some r) := by
  have Hm : Hid (l.length = p + m) := hm
  clear hm
  go_enter Tryz.func127, Tryz.ntmps127
  go_wp2_with fail
  refine (take_arg _ r g p m _ l h Hm.out hn).mono ?_
  rintro e w1 ⟨rfl, hr, hg⟩
  go_wp2
  go_ret
  exact ⟨rfl, hr, hg⟩

theorem raw_short (w : World) (r g p m : Nat) (n : Int) (l : List UInt8) (h : Rd w r g p 0 l) (hm : l.length = p + m) (hn : (m : Int) < n) :
    Calls Tryz.prog 127 #[.pointer (some ⟨r, 0, none⟩), .int .i64 n] w fun e w' => e = .returned (.slice none 0 0) ∧ Rd w' r g p 110 l ∧ w.grownBy w' (some r) := by
  have Hm : Hid (l.length = p + m) := hm
  clear hm
  go_enter Tryz.func127, Tryz.ntmps127
  go_wp2_with fail
  refine (take_short _ r g p m _ l h Hm.out hn).mono ?_
  rintro e w1 ⟨rfl, hr, hg⟩
  go_wp2
  go_ret
  exact ⟨rfl, hr, hg⟩

theorem raw_yes (w : World) (r g p m n : Nat) (l : List UInt8) (h : Rd w r g p 0 l) (hm : l.length = p + m) (hn : n ≤ m) (hlim : m ≤ 281474976710656) :
    Calls Tryz.prog 127 #[.pointer (some ⟨r, 0, none⟩), .int .i64 n] w fun e w' => ∃ ad c, e = .returned (.slice ad n c) ∧ Bytes w' ad n ((l.drop p).take n) ∧ Rd w' r g (p + n) 0 l ∧ w.grownBy w' (some r) := by
  have Hm : Hid (l.length = p + m) := hm
  clear hm
  go_enter Tryz.func127, Tryz.ntmps127
  go_wp2_with fail
  refine (take_yes _ r g p m n l h Hm.out hn).mono ?_
  rintro e w1 ⟨a, c, rfl, hb, hr, hg⟩
  go_wp2_with fail
  refine (withRoom_any a n c 0 _ _ hb (by omega)).mono ?_
  rintro e w2 ⟨rfl, hown, hg2⟩
  go_wp2
  go_ret
  refine ⟨_, _, rfl, (ownsRow_bytes hown).1, hr.kept hg2 (by simp) (by simp), grownBy_trans hg (grownBy_wide hg2)⟩

end Go.Proofs.YtncagdfbgpdhfaaGreat

/- The walks of a Reader's Text. -/
namespace Go.Proofs.YtncagdfbgpdhfaaGreat
open Go.RowKit

set_option maxHeartbeats 1000000 in
theorem textBounds_any (a : Option Addr) (n cap : Nat) (most : Int) (l : List UInt8) (w : World) (hb : Bytes w a n l) (hm : n ≤ maxLen) (hmost : most ≤ 9223372036854775807) :
    Calls Tryz.prog 121 #[.slice a n cap, .int .i64 most] w fun e w' => e = .returned (.tuple #[.int .i64 (txt l most).1, .int .i64 (txt l most).2.1, .int .i64 (txt l most).2.2]) ∧ w' = w := by
  have hmx := hm
  unfold maxLen at hmx
  have hl := hb.1
  by_cases h0 : most < 0
  · rw [txt_arg l most h0]
    go_enter Tryz.func121, Tryz.ntmps121
    go_wp2
    go_ret3
    exact ⟨rfl, rfl⟩
  · have hle := num_le l
    have hfit := num_fits l
    have hpos := num_pos l
    obtain ⟨x, k, er, hnum⟩ : ∃ x k er, num l = (x, k, er) := ⟨_, _, _, rfl⟩
    have T1 := txt_num l most h0
    have T2 := txt_long l most h0
    have T3 := txt_short l most h0
    have T4 := txt_ok l most h0
    rw [hnum] at hle hfit hpos T1 T2 T3 T4
    simp only at hle hfit hpos T1 T2 T3 T4
    rw [hl] at hle T3 T4
    have Hnum : Hid (num l = (x, k, er)) := hnum
    clear hnum
    by_cases her : er = 0
    · subst her
      by_cases hlong : most < x
      · rw [T2 rfl hlong]
        clear T1 T2 T3 T4 hl
        go_enter Tryz.func121, Tryz.ntmps121
        go_wp2_with fail
        refine (shortForm_any a n cap l _ hb hm).mono ?_
        rw [Hnum.out]
        rintro e w1 ⟨rfl, rfl⟩
        go_wp2
        go_ret3
        exact ⟨rfl, rfl⟩
      · by_cases hsh : ((n - k : Nat) : Int) < x
        · rw [T3 rfl hlong hsh]
          clear T1 T2 T3 T4 hl
          have hsub : (n : Int) - (k : Int) = ((n - k : Nat) : Int) := by omega
          go_enter Tryz.func121, Tryz.ntmps121
          go_wp2_with fail
          refine (shortForm_any a n cap l _ hb hm).mono ?_
          rw [Hnum.out]
          rintro e w1 ⟨rfl, rfl⟩
          go_wp2
          go_ret3
          exact ⟨rfl, rfl⟩
        · rw [T4 rfl hlong hsh]
          clear T1 T2 T3 T4 hl
          have hsub : (n : Int) - (k : Int) = ((n - k : Nat) : Int) := by omega
          obtain ⟨X, hX⟩ := Int.eq_ofNat_of_zero_le hfit.1
          subst hX
          go_enter Tryz.func121, Tryz.ntmps121
          go_wp2_with fail
          refine (shortForm_any a n cap l _ hb hm).mono ?_
          rw [Hnum.out]
          rintro e w1 ⟨rfl, rfl⟩
          go_wp2
          go_ret3
          exact ⟨by simp, rfl⟩
    · have hne : (er != 0) = true := by simpa using her
      rw [T1 her]
      clear T1 T2 T3 T4 hl
      go_enter Tryz.func121, Tryz.ntmps121
      go_wp2_with fail
      refine (shortForm_any a n cap l _ hb hm).mono ?_
      rw [Hnum.out]
      rintro e w1 ⟨rfl, rfl⟩
      go_wp2
      go_ret3
      exact ⟨rfl, rfl⟩

theorem text_stuck (w : World) (r g p : Nat) (x most : Int) (l : List UInt8) (h : Rd w r g p x l) (hx : (x != 0) = true) :
    Calls Tryz.prog 93 #[.pointer (some ⟨r, 0, none⟩), .int .i64 most] w fun e w' => e = .returned (.string ⟨#[]⟩) ∧ w' = w := by
  go_enter Tryz.func93, Tryz.ntmps93
  go_wp2_with fail
  refine (stuck_yes _ r x h.c1 hx).mono ?_
  rintro e w1 ⟨rfl, rfl⟩
  go_wp2
  go_ret
  exact ⟨rfl, rfl⟩

set_option maxHeartbeats 400000 in
theorem text_no (w : World) (r g p m : Nat) (most : Int) (l : List UInt8) (h : Rd w r g p 0 l) (hm : l.length = p + m) (hmost : most ≤ 9223372036854775807) (hn : ((txt (l.drop p) most).2.2 != 0) = true) :
    Calls Tryz.prog 93 #[.pointer (some ⟨r, 0, none⟩), .int .i64 most] w fun e w' => e = .returned (.string ⟨#[]⟩) ∧ Rd w' r g p (txt (l.drop p) most).2.2 l ∧ w.grownBy w' (some r) := by
  have hl := h.hl
  have Hm : Hid (l.length = p + m) := hm
  have hml : m ≤ maxLen := by omega
  obtain ⟨f, t, er, htx⟩ : ∃ f t er, txt (l.drop p) most = (f, t, er) := ⟨_, _, _, rfl⟩
  have Htx : Hid (txt (l.drop p) most = (f, t, er)) := htx
  rw [htx] at hn ⊢
  simp only at hn ⊢
  clear hm htx hl
  go_enter Tryz.func93, Tryz.ntmps93
  go_wp2_with fail
  refine (stuck_no _ r h.c1).mono ?_
  rintro e w1 ⟨rfl, rfl⟩
  go_wp2_with fail
  refine (rest_any _ r g p m 0 l h Hm.out).mono ?_
  rintro e w2 ⟨q, j, rfl, hb, rfl⟩
  go_wp2_with fail
  refine (textBounds_any _ m m most (l.drop p) _ (hb.drewN j) hml hmost).mono ?_
  rw [Htx.out]
  rintro e w3 ⟨rfl, rfl⟩
  go_wp2_with fail
  refine (settle_no _ r t _ _ (h.drewN j).c1 (h.drewN j).f1 hn).mono ?_
  rintro e w4 ⟨rfl, rfl⟩
  go_wp2
  go_ret
  exact ⟨rfl, (h.drewN j).setErr _, grownBy_trans (grownBy_drewN _ _ _) (grownBy_setCell _ _ _ _)⟩

theorem Bytes.sub {w : World} {g q m : Nat} {L : List UInt8} (h : Bytes w (some ⟨g, q, none⟩) m L) (f t : Nat) (hft : f ≤ t) (htm : t ≤ m) : Bytes w (some ⟨g, q + f, none⟩) (t - f) ((L.take t).drop f) := by
  have hl := h.1
  refine ⟨by simp; omega, fun h0 => ⟨g, q + f, rfl, fun i hi => ?_⟩⟩
  obtain ⟨b, off, hx, hc⟩ := h.2 (by omega)
  simp only [Option.some.injEq, Addr.mk.injEq, and_true] at hx
  obtain ⟨rfl, rfl⟩ := hx
  rw [bt_drop, bt_take _ _ _ (by omega), Nat.add_assoc]
  exact hc (f + i) (by omega)

set_option maxHeartbeats 400000 in
theorem text_yes (w : World) (r g p m : Nat) (most : Int) (l : List UInt8) (hR : Rd w r g p 0 l) (hm : l.length = p + m) (hmost : most ≤ 9223372036854775807) (hn : (txt (l.drop p) most).2.2 = 0) :
    Calls Tryz.prog 93 #[.pointer (some ⟨r, 0, none⟩), .int .i64 most] w fun e w' => e = .returned (.string ⟨(((l.drop p).take (txt (l.drop p) most).2.1).drop (txt (l.drop p) most).1).toArray⟩) ∧ Rd w' r g (p + (txt (l.drop p) most).2.1) 0 l ∧ w.grownBy w' (some r) := by
  have hl := hR.hl
  have Hm : Hid (l.length = p + m) := hm
  have hml : m ≤ maxLen := by omega
  have hmx : m ≤ 9223372036854775807 := by unfold maxLen at hml; omega
  have hpm : p + m ≤ 9223372036854775807 := by unfold maxLen at hl; omega
  have hbd := txt_bounds (l.drop p) most
  rw [List.length_drop] at hbd
  obtain ⟨f, t, er, htx⟩ : ∃ f t er, txt (l.drop p) most = (f, t, er) := ⟨_, _, _, rfl⟩
  have Htx : Hid (txt (l.drop p) most = (f, t, er)) := htx
  rw [htx] at hn hbd ⊢
  simp only at hn hbd ⊢
  subst hn
  have hft : f ≤ t := hbd.1
  have htm : t ≤ m := by omega
  have i0 : (0 : Int) ≤ (f : Int) := by omega
  have i1 : (f : Int) ≤ (t : Int) := by omega
  have i2 : (t : Int) ≤ (m : Int) := by omega
  clear hm htx hl hbd
  go_enter Tryz.func93, Tryz.ntmps93
  go_wp2_with fail
  refine (stuck_no _ r hR.c1).mono ?_
  rintro e w1 ⟨rfl, rfl⟩
  go_wp2_with fail
  refine (rest_any _ r g p m 0 l hR Hm.out).mono ?_
  rintro e w2 ⟨q, j, rfl, hb, rfl⟩
  go_wp2_with fail
  refine (textBounds_any _ m m most (l.drop p) _ (hb.drewN j) hml hmost).mono ?_
  rw [Htx.out]
  rintro e w3 ⟨rfl, rfl⟩
  go_wp2_with fail
  refine (settle_yes _ r p t (hR.drewN j).c0 (hR.drewN j).f0 (by omega) (by omega) (by omega)).mono ?_
  rintro e w4 ⟨rfl, rfl⟩
  have hbS : Bytes ((w1.drewN j).setCell ⟨r, 0, none⟩ (.int .i64 ((p : Int) + (t : Int)))) (some ⟨g, q, none⟩) m (l.drop p) := (hb.drewN j).kept (grownBy_setCell _ _ _ _) (by simp [hR.ne])
  have hfin : Rd ((w1.drewN j).setCell ⟨r, 0, none⟩ (.int .i64 ((p : Int) + (t : Int)))) r g (p + t) 0 l := (hR.drewN j).setAt (p + t) (by have := Hm.out; omega)
  clear hb
  by_cases hfm : m = f
  · have htf : t - f = 0 := by omega
    have HE : Hid (((l.drop p).take t).drop f = []) := by show _ = []; rw [List.drop_eq_nil_iff]; simp; omega
    have hstr := run_string ((w1.drewN j).setCell ⟨r, 0, none⟩ (.int .i64 ((p : Int) + (t : Int)))) (some ⟨g, q, none⟩) 0 0 [] ⟨rfl, fun h0 => by omega⟩
    go_wp2
    go_ret
    rw [HE.out]
    exact ⟨rfl, hfin, grownBy_trans (grownBy_drewN _ _ _) (grownBy_setCell _ _ _ _)⟩
  · have hstr := run_string ((w1.drewN j).setCell ⟨r, 0, none⟩ (.int .i64 ((p : Int) + (t : Int)))) (some ⟨g, q + f, none⟩) (t - f) (m - f) _ (hbS.sub f t hft htm)
    go_wp2
    go_ret
    exact ⟨rfl, hfin, grownBy_trans (grownBy_drewN _ _ _) (grownBy_setCell _ _ _ _)⟩

end Go.Proofs.YtncagdfbgpdhfaaGreat

/- What a reader answers, whatever its state: one contract a call. -/
namespace Go.Proofs.YtncagdfbgpdhfaaGreat
open Go.RowKit

attribute [local go_sem] Oper.semAt_some

def byteR (l : List UInt8) (p : Nat) (e : Int) : Int × Nat × Int := if e ≠ 0 then (0, p, e) else if p < l.length then (bt l p, p + 1, 0) else (0, p, 110)
theorem byte_st (w : World) (r g p : Nat) (e : Int) (l : List UInt8) (h : Rd w r g p e l) :
    Calls Tryz.prog 126 #[.pointer (some ⟨r, 0, none⟩)] w fun x w' => x = .returned (.int .u8 (byteR l p e).1) ∧ Rd w' r g (byteR l p e).2.1 (byteR l p e).2.2 l ∧ w.grownBy w' (some r) := by
  unfold byteR
  by_cases he : e = 0
  · subst he
    rw [if_neg (by simp)]
    by_cases hp : p < l.length
    · rw [if_pos hp]
      exact byte_yes w r g p l h hp
    · rw [if_neg hp]
      exact byte_short w r g p l h (by have := h.hp; omega)
  · rw [if_pos he]
    refine (byte_stuck w r g p e l h (by simp [he])).mono fun x w' hx => ⟨hx.1, ?_, ?_⟩
    · rw [hx.2]; exact h
    · rw [hx.2]; exact ⟨rfl, rfl, rfl, Nat.le_refl _, fun _ _ _ => rfl⟩
def uintR (l : List UInt8) (p : Nat) (e : Int) : Int × Nat × Int := if e ≠ 0 then (0, p, e) else if (num (l.drop p)).2.2 = 0 then ((num (l.drop p)).1, p + (num (l.drop p)).2.1, 0) else (0, p, (num (l.drop p)).2.2)
theorem uint_st (w : World) (r g p : Nat) (e : Int) (l : List UInt8) (h : Rd w r g p e l) :
    Calls Tryz.prog 156 #[.pointer (some ⟨r, 0, none⟩)] w fun x w' => x = .returned (.int .u64 (uintR l p e).1) ∧ Rd w' r g (uintR l p e).2.1 (uintR l p e).2.2 l ∧ w.grownBy w' (some r) := by
  unfold uintR
  by_cases he : e = 0
  · subst he
    rw [if_neg (by simp)]
    by_cases hp : (num (l.drop p)).2.2 = 0
    · rw [if_pos hp]
      exact uint_yes w r g p l h hp
    · rw [if_neg hp]
      exact uint_no w r g p l h (by simp [hp])
  · rw [if_pos he]
    refine (uint_stuck w r g p e l h (by simp [he])).mono fun x w' hx => ⟨hx.1, ?_, ?_⟩
    · rw [hx.2]; exact h
    · rw [hx.2]; exact ⟨rfl, rfl, rfl, Nat.le_refl _, fun _ _ _ => rfl⟩
def wordR (l : List UInt8) (p : Nat) (e : Int) : Int × Nat × Int := if e ≠ 0 then (0, p, e) else if l.length < p + 8 then (0, p, 110) else (wideVal ((l.drop p).take 8) 8, p + 8, 0)
theorem word_st (w : World) (r g p : Nat) (e : Int) (l : List UInt8) (h : Rd w r g p e l) :
    Calls Tryz.prog 94 #[.pointer (some ⟨r, 0, none⟩)] w fun x w' => x = .returned (.int .u64 (wordR l p e).1) ∧ Rd w' r g (wordR l p e).2.1 (wordR l p e).2.2 l ∧ w.grownBy w' (some r) := by
  have hp := h.hp
  unfold wordR
  by_cases he : e = 0
  · subst he
    rw [if_neg (by simp)]
    by_cases h8 : l.length < p + 8
    · rw [if_pos h8]
      exact word_short w r g p (l.length - p) l h (by omega) (by omega)
    · rw [if_neg h8]
      exact word_yes w r g p (l.length - p) l h (by omega) (by omega)
  · rw [if_pos he]
    refine (word_stuck w r g p e l h (by simp [he])).mono fun x w' hx => ⟨hx.1, ?_, ?_⟩
    · rw [hx.2]; exact h
    · rw [hx.2]; exact ⟨rfl, rfl, rfl, Nat.le_refl _, fun _ _ _ => rfl⟩
def cutT (s : List UInt8) (most : Int) : ByteArray := ⟨((s.take (txt s most).2.1).drop (txt s most).1).toArray⟩
def textR (l : List UInt8) (p : Nat) (e most : Int) : ByteArray × Nat × Int := if e ≠ 0 then (⟨#[]⟩, p, e) else if (txt (l.drop p) most).2.2 = 0 then (cutT (l.drop p) most, p + (txt (l.drop p) most).2.1, 0) else (⟨#[]⟩, p, (txt (l.drop p) most).2.2)
theorem text_st (w : World) (r g p : Nat) (e most : Int) (l : List UInt8) (h : Rd w r g p e l) (hmost : most ≤ 9223372036854775807) :
    Calls Tryz.prog 93 #[.pointer (some ⟨r, 0, none⟩), .int .i64 most] w fun x w' => x = .returned (.string (textR l p e most).1) ∧ Rd w' r g (textR l p e most).2.1 (textR l p e most).2.2 l ∧ w.grownBy w' (some r) := by
  have hp := h.hp
  unfold textR
  by_cases he : e = 0
  · subst he
    rw [if_neg (by simp)]
    by_cases h8 : (txt (l.drop p) most).2.2 = 0
    · rw [if_pos h8]
      exact text_yes w r g p (l.length - p) most l h (by omega) hmost h8
    · rw [if_neg h8]
      exact text_no w r g p (l.length - p) most l h (by omega) hmost (by simp [h8])
  · rw [if_pos he]
    refine (text_stuck w r g p e most l h (by simp [he])).mono fun x w' hx => ⟨hx.1, ?_, ?_⟩
    · rw [hx.2]; exact h
    · rw [hx.2]; exact ⟨rfl, rfl, rfl, Nat.le_refl _, fun _ _ _ => rfl⟩
/-- the bounds of what is read -/
theorem byteR_fits (l : List UInt8) (p : Nat) (e : Int) : 0 ≤ (byteR l p e).1 ∧ (byteR l p e).1 ≤ 255 := by
  unfold byteR
  split
  · simp
  · split
    · have := (l.getD p 0).toNat_lt
      unfold bt
      simp only
      omega
    · simp
theorem uintR_fits (l : List UInt8) (p : Nat) (e : Int) : 0 ≤ (uintR l p e).1 ∧ (uintR l p e).1 ≤ 18446744073709551615 := by
  unfold uintR
  split
  · simp
  · split
    · exact num_fits _
    · simp

end Go.Proofs.YtncagdfbgpdhfaaGreat

/- Assertions of an object's type, as equations. -/
namespace Go.Proofs.YtncagdfbgpdhfaaGreat
open Go.RowKit

def zBlob : Value := .agg #[.slice none 0 0]
def zTree : Value := .agg #[.slice none 0 0]
def zCommit : Value := .agg #[.int .u64 0, .slice none 0 0, .string ⟨#[]⟩, .int .i64 0, .string ⟨#[]⟩]
theorem as_blob (v : Value) (xT : TypeId) (w : World) : (Instr.typeAssert (.iface 82 v) xT 82 true).run Tryz.prog w = .ok (.tuple #[v, .bool true]) w := by
  simp [Instr.typeAssert, run_underlying Tryz.underlying82, go_sem, Result.andThen]
theorem as_tree (v : Value) (xT : TypeId) (w : World) : (Instr.typeAssert (.iface 125 v) xT 125 true).run Tryz.prog w = .ok (.tuple #[v, .bool true]) w := by
  simp [Instr.typeAssert, run_underlying Tryz.underlying125, go_sem, Result.andThen]
theorem as_commit (v : Value) (xT : TypeId) (w : World) : (Instr.typeAssert (.iface 78 v) xT 78 true).run Tryz.prog w = .ok (.tuple #[v, .bool true]) w := by
  simp [Instr.typeAssert, run_underlying Tryz.underlying78, go_sem, Result.andThen]
theorem no_blob (t : TypeId) (ht : t ≠ 82) (v : Value) (xT : TypeId) (w : World) : (Instr.typeAssert (.iface t v) xT 82 true).run Tryz.prog w = .ok (.tuple #[zBlob, .bool false]) w := by
  simp [Instr.typeAssert, run_underlying Tryz.underlying82, go_sem, Result.andThen, ht]
  rfl
theorem no_tree (t : TypeId) (ht : t ≠ 125) (v : Value) (xT : TypeId) (w : World) : (Instr.typeAssert (.iface t v) xT 125 true).run Tryz.prog w = .ok (.tuple #[zTree, .bool false]) w := by
  simp [Instr.typeAssert, run_underlying Tryz.underlying125, go_sem, Result.andThen, ht]
  rfl
theorem no_commit (t : TypeId) (ht : t ≠ 78) (v : Value) (xT : TypeId) (w : World) : (Instr.typeAssert (.iface t v) xT 78 true).run Tryz.prog w = .ok (.tuple #[zCommit, .bool false]) w := by
  simp [Instr.typeAssert, run_underlying Tryz.underlying78, go_sem, Result.andThen, ht]
  rfl
theorem nil_blob (xT : TypeId) (w : World) : (Instr.typeAssert .nilIface xT 82 true).run Tryz.prog w = .ok (.tuple #[zBlob, .bool false]) w := by
  simp [Instr.typeAssert, run_underlying Tryz.underlying82, go_sem, Result.andThen]
  rfl
theorem nil_tree (xT : TypeId) (w : World) : (Instr.typeAssert .nilIface xT 125 true).run Tryz.prog w = .ok (.tuple #[zTree, .bool false]) w := by
  simp [Instr.typeAssert, run_underlying Tryz.underlying125, go_sem, Result.andThen]
  rfl
theorem nil_commit (xT : TypeId) (w : World) : (Instr.typeAssert .nilIface xT 78 true).run Tryz.prog w = .ok (.tuple #[zCommit, .bool false]) w := by
  simp [Instr.typeAssert, run_underlying Tryz.underlying78, go_sem, Result.andThen]
  rfl
theorem must_tree (v : Value) (xT : TypeId) (w : World) : (Instr.typeAssert (.iface 125 v) xT 125 false).run Tryz.prog w = .ok v w := by
  simp [Instr.typeAssert, run_underlying Tryz.underlying125, go_sem, Result.andThen]
theorem must_commit (v : Value) (xT : TypeId) (w : World) : (Instr.typeAssert (.iface 78 v) xT 78 false).run Tryz.prog w = .ok v w := by
  simp [Instr.typeAssert, run_underlying Tryz.underlying78, go_sem, Result.andThen]
theorem must_not_tree (t : TypeId) (ht : t ≠ 125) (v : Value) (xT : TypeId) (w : World) : ∃ o, (Instr.typeAssert (.iface t v) xT 125 false).run Tryz.prog w = .halt (.panic (.iface 15 (.pointer (some ⟨w.heap.size, 0, none⟩)))) (w.alloc o) := by
  simp [Instr.typeAssert, run_underlying Tryz.underlying125, go_sem, Result.andThen, ht, elemOf, run_underlying Tryz.underlying15]
  exact ⟨_, rfl⟩
theorem must_nil_tree (xT : TypeId) (w : World) : ∃ o, (Instr.typeAssert .nilIface xT 125 false).run Tryz.prog w = .halt (.panic (.iface 15 (.pointer (some ⟨w.heap.size, 0, none⟩)))) (w.alloc o) := by
  simp [Instr.typeAssert, run_underlying Tryz.underlying125, go_sem, Result.andThen, elemOf, run_underlying Tryz.underlying15]
  exact ⟨_, rfl⟩
theorem must_not_commit (t : TypeId) (ht : t ≠ 78) (v : Value) (xT : TypeId) (w : World) : ∃ o, (Instr.typeAssert (.iface t v) xT 78 false).run Tryz.prog w = .halt (.panic (.iface 15 (.pointer (some ⟨w.heap.size, 0, none⟩)))) (w.alloc o) := by
  simp [Instr.typeAssert, run_underlying Tryz.underlying78, go_sem, Result.andThen, ht, elemOf, run_underlying Tryz.underlying15]
  exact ⟨_, rfl⟩
theorem must_nil_commit (xT : TypeId) (w : World) : ∃ o, (Instr.typeAssert .nilIface xT 78 false).run Tryz.prog w = .halt (.panic (.iface 15 (.pointer (some ⟨w.heap.size, 0, none⟩)))) (w.alloc o) := by
  simp [Instr.typeAssert, run_underlying Tryz.underlying78, go_sem, Result.andThen, elemOf, run_underlying Tryz.underlying15]
  exact ⟨_, rfl⟩
end Go.Proofs.YtncagdfbgpdhfaaGreat

/- The walks of what tells an object's kind by its type. -/
namespace Go.Proofs.YtncagdfbgpdhfaaGreat
open Go.RowKit

end Go.Proofs.YtncagdfbgpdhfaaGreat
