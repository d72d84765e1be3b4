import Derived.Test.YtdjodigimhgklaaGreatDoorMD05
import Derived.Laws.CopyOwn
import Derived.Test.YtdjodigimhgklaaGreatDoorMD03
import Derived.Test.YtdjodigimhgklaaGreatDoorMD01
import Derived.Test.YtdjodigimhgklaaGreatDoorMD04
/- The walks of a Reader's methods that need no number's form: Byte, Raw, Err, Left, End; and of Read itself. -/
namespace Go.Proofs.YtdjodigimhgklaaGreatDoor
open Go.RowKit

theorem err_nil (w : World) : Calls Tryz.prog 117 #[.pointer none] w fun e w' => e = .returned (.int .i64 1) ∧ w' = w := by
  go_enter Tryz.func117, Tryz.ntmps117
  go_wp2
  go_ret
  exact ⟨rfl, rfl⟩

theorem err_any (w : World) (r : Nat) (x : Int) (h : w.cell? ⟨r, 1, none⟩ = some (.int .i64 x)) : Calls Tryz.prog 117 #[.pointer (some ⟨r, 0, none⟩)] w fun e w' => e = .returned (.int .i64 x) ∧ w' = w := by
  go_enter Tryz.func117, Tryz.ntmps117
  go_wp2
  go_ret
  exact ⟨rfl, rfl⟩

theorem left_nil (w : World) : Calls Tryz.prog 114 #[.pointer none] w fun e w' => e = .returned (.int .i64 0) ∧ w' = w := by
  go_enter Tryz.func114, Tryz.ntmps114
  go_wp2
  go_ret
  exact ⟨rfl, rfl⟩

theorem left_any (w : World) (r g p m : Nat) (x : Int) (l : List UInt8) (h : Rd w r g p x l) (hm : l.length = p + m) :
    Calls Tryz.prog 114 #[.pointer (some ⟨r, 0, none⟩)] w fun e w' => e = .returned (.int .i64 m) ∧ ∃ k, w' = w.drewN k := by
  have Hm : Hid (l.length = p + m) := hm
  clear hm
  go_enter Tryz.func114, Tryz.ntmps114
  go_wp2_with fail
  refine (rest_any _ r g p m x l h Hm.out).mono ?_
  rintro e w1 ⟨q, k, rfl, hb, rfl⟩
  go_wp2
  go_ret
  exact ⟨rfl, _, rfl⟩

theorem end_nil (w : World) : Calls Tryz.prog 124 #[.pointer none] w fun e w' => e = .returned (.int .i64 1) ∧ w' = w := by
  go_enter Tryz.func124, Tryz.ntmps124
  go_wp2_with fail
  refine (err_nil _).mono ?_
  rintro e w1 ⟨rfl, rfl⟩
  go_wp2
  go_ret
  exact ⟨rfl, rfl⟩

theorem end_err (w : World) (r : Nat) (x : Int) (h : w.cell? ⟨r, 1, none⟩ = some (.int .i64 x)) (hx : (x != 0) = true) : Calls Tryz.prog 124 #[.pointer (some ⟨r, 0, none⟩)] w fun e w' => e = .returned (.int .i64 x) ∧ w' = w := by
  go_enter Tryz.func124, Tryz.ntmps124
  go_wp2_with fail
  refine (err_any _ r x h).mono ?_
  rintro e w1 ⟨rfl, rfl⟩
  go_wp2
  go_ret
  exact ⟨rfl, rfl⟩

theorem end_ok (w : World) (r g p m : Nat) (l : List UInt8) (h : Rd w r g p 0 l) (hm : l.length = p + m) :
    Calls Tryz.prog 124 #[.pointer (some ⟨r, 0, none⟩)] w fun e w' => e = .returned (.int .i64 (if 0 < m then 111 else 0)) ∧ ∃ k, w' = w.drewN k := by
  have Hm : Hid (l.length = p + m) := hm
  clear hm
  by_cases h0 : 0 < m
  · have i1 : (0 : Int) < (m : Int) := by omega
    rw [if_pos h0]
    go_enter Tryz.func124, Tryz.ntmps124
    go_wp2_with fail
    refine (err_any _ r 0 h.c1).mono ?_
    rintro e w1 ⟨rfl, rfl⟩
    go_wp2_with fail
    refine (left_any _ r g p m 0 l h Hm.out).mono ?_
    rintro e w1 ⟨rfl, k, rfl⟩
    go_wp2
    go_ret
    exact ⟨rfl, _, rfl⟩
  · have i1 : ¬ (0 : Int) < (m : Int) := by omega
    rw [if_neg h0]
    go_enter Tryz.func124, Tryz.ntmps124
    go_wp2_with fail
    refine (err_any _ r 0 h.c1).mono ?_
    rintro e w1 ⟨rfl, rfl⟩
    go_wp2_with fail
    refine (left_any _ r g p m 0 l h Hm.out).mono ?_
    rintro e w1 ⟨rfl, k, rfl⟩
    go_wp2
    go_ret
    exact ⟨rfl, _, rfl⟩

end Go.Proofs.YtdjodigimhgklaaGreatDoor

/- The walk of the program's reading of a short form. -/
namespace Go.Proofs.YtdjodigimhgklaaGreatDoor
open Go.RowKit

theorem ret3_of {p : Int × Nat × Int} {x : Int} {y : Int} {z : Int} (h : p = (x, y.toNat, z)) (h0 : 0 ≤ y) :
    Ending.returned (.tuple #[.int .u64 x, .int .i64 y, .int .i64 z]) = .returned (.tuple #[.int .u64 p.1, .int .i64 p.2.1, .int .i64 p.2.2]) := by
  rw [h]
  simp [Int.toNat_of_nonneg h0]

set_option maxHeartbeats 1000000 in
theorem shortForm_any (a : Option Addr) (n cap : Nat) (l : List UInt8) (w : World) (hb : Bytes w a n l) (hm : n ≤ maxLen) :
    Calls Tryz.prog 158 #[.slice a n cap] w fun e w' => e = .returned (.tuple #[.int .u64 (num l).1, .int .i64 (num l).2.1, .int .i64 (num l).2.2]) ∧ w' = w := by
  unfold maxLen at hm
  obtain ⟨hl, hc⟩ := hb
  have HN : Hid (num l = numFrom l (n - 0) 0) := by show num l = _; unfold num; rw [hl]; rfl
  go_enter Tryz.func158, Tryz.ntmps158
  go_wp2
  go_loop [5, 10] (fun x i => ∃ k : Nat, k ≤ n ∧ k ≤ 9 ∧ i = .int .i64 k ∧ x = .int .u64 (accTo l k) ∧ Hid (num l = numFrom l (n - k) k)) (fun _ i => n - (intOf i).toNat)
  case atStart => exact ⟨0, Nat.zero_le _, by omega, rfl, rfl, HN⟩
  case round =>
    clear HN
    obtain ⟨k, hk, hk9, rfl, rfl, HN⟩ := hrel
    by_cases hlt : k < n
    · obtain ⟨b, off, rfl, hcell⟩ := hc (by omega)
      have hck := hcell k hlt
      have b0 := bt_lo l k
      have b1 := bt_hi l k
      have h0 := accTo_lo l k
      clear hcell hc hl
      have HS : Hid (k ≤ 9 → (k = 9 → bt l k ≤ 1) → bits BinOp.or IntKind.u64 (accTo l k) (IntKind.u64.wrap (IntKind.u64.wrap (bits BinOp.andNot IntKind.u8 (bt l k) 128) * 2 ^ (7 * k))) = accTo l (k + 1)) :=
        fun h1 h2 => by rw [or_step l (bt l k) k b0 b1 h1 h2, accTo_succ]
      have NB : Hid (brokenB k (bt l k) = true → num l = (0, 0, 8)) := num_broken HN.out hlt
      have NL : Hid (brokenB k (bt l k) = false → bt l k < 128 → num l = (accTo l (k + 1), k + 1, 0)) := num_last HN.out hlt
      have NN : Hid (brokenB k (bt l k) = false → ¬ bt l k < 128 → num l = numFrom l (n - (k + 1)) (k + 1)) := num_next HN.out hlt
      clear HN
      generalize bt l k = c at *
      by_cases h9 : k = 9
      · subst h9
        by_cases hc1 : 1 < c
        · go_wp2
          go_ret3
          exact ⟨ret3_of (NB.out (by simp [brokenB]; omega)) (by omega), rfl⟩
        · by_cases hz : c = 0
          · subst hz
            go_wp2
            go_ret3
            exact ⟨ret3_of (NB.out (by simp [brokenB])) (by omega), rfl⟩
          · have cz : (c == 0) = false := by simpa using hz
            have h8 : c < 128 := by omega
            go_wp2
            go_ret3
            have hs := HS.out (by omega) (fun _ => by omega)
            rw [show (2 : Int) ^ (7 * 9) = 9223372036854775808 from by decide] at hs
            exact ⟨ret3_of (by rw [NL.out (by simp [brokenB]; omega) h8, hs]; rfl) (by omega), rfl⟩
      · have k9 : ((k : Int) == 9) = false := by simp; omega
        by_cases hk0 : ¬ 0 < k
        · by_cases h8 : c < 128
          · go_wp2
            go_ret3
            exact ⟨ret3_of (by rw [NL.out (by simp [brokenB]; omega) h8, HS.out (by omega) (by omega)]; congr 2) (by omega), rfl⟩
          · go_wp2
            go_round
            case rel => exact ⟨k + 1, by omega, by omega, by go_num, by rw [HS.out (by omega) (by omega)], NN.out (by simp [brokenB]; omega) h8⟩
            case measure => simp [intOf]; omega
        · have kp : 0 < k := by omega
          by_cases hz : c = 0
          · subst hz
            go_wp2
            go_ret3
            exact ⟨ret3_of (NB.out (by simp [brokenB]; omega)) (by omega), rfl⟩
          · have cz : (c == 0) = false := by simpa using hz
            by_cases h8 : c < 128
            · go_wp2
              go_ret3
              exact ⟨ret3_of (by rw [NL.out (by simp [brokenB]; omega) h8, HS.out (by omega) (by omega)]; congr 2) (by omega), rfl⟩
            · go_wp2
              go_round
              case rel => exact ⟨k + 1, by omega, by omega, by go_num, by rw [HS.out (by omega) (by omega)], NN.out (by simp [brokenB]; omega) h8⟩
              case measure => simp [intOf]; omega
    · have NS := num_short HN.out hlt
      clear HN
      have NS' : Hid (num l = (0, 0, 110)) := NS
      clear NS
      go_wp2
      go_ret3
      exact ⟨ret3_of (by rw [NS'.out]; rfl) (by omega), rfl⟩

end Go.Proofs.YtdjodigimhgklaaGreatDoor

/- The walks of withRoom (a copy of bytes with room behind them), of Read and of Raw. -/
namespace Go.Proofs.YtdjodigimhgklaaGreatDoor
open Go.RowKit


/-- make with a length and a greater capacity, elements of one cell: the new row, whole -/
theorem wpList_make_part {P : Program} (w : World) {ops : Array Oper} {rest : List Oper} {o : Oper} {a : Act} {Q : Exit → Act → World → Prop}
    (hg : o.guard = none) (l c : Operand) (t : TypeId) (hop : o.op = Op.makeSlice t l c)
    (e : TypeId) (i : TypeInfo) (z : Value) (h1 : P.underlying t = some (.slice e)) (h2 : P.info? e = some i) (h3 : i.zero = some z) (h4 : i.size = 1) (h5 : i.bytes = 1)
    (kl kc : IntKind) (n m : Nat) (L C : Int) (hl : a.eval l = .int kl L) (hc : a.eval c = .int kc C) (hL : L = (n : Int)) (hC : C = (m : Int)) (hnm : n ≤ m) (b2 : m ≤ 281474976710656)
    (hK : ∀ w1, Hid (w1.heap[w.heap.size]? = some (.cells (madeCells z.cells m) e (0, 0))) → Below w.heap.size w w1 → wpList P ops Q rest (a.put o.dst (.slice (some ⟨w.heap.size, 0, none⟩) n m)) w1) :
    wpList P ops Q (o :: rest) a w := by
  refine wpList_plain hg fun K hK' => ?_
  have hrun := run_make (P := P) w t e i z h1 h2 h3 kl kc L C (by omega) (by omega) (by rw [h5]; omega) (by omega)
  subst hL
  subst hC
  simp only [h4, Nat.mul_one, Int.toNat_natCast] at hrun
  unfold Oper.wp
  simp [execOp, hop, hl, hc, hrun, Result.andThen]
  exact hK' _ _ (hK _ (heap_alloc_new w _) ((Below.refl _ _).alloc (Nat.le_refl _) _))

theorem grownBy_of_below {w w' : World} (h : Below w.heap.size w w') : w.grownBy w' none := ⟨h.os, h.tape, h.output, h.size, fun k hk _ => h.block k hk⟩

theorem size_made (z : Array Value) (n : Nat) : (madeCells z n).toList.length = n := by rw [Array.length_toList, size_madeCells]

/-- copy into a row just made: the row holds the bytes -/
theorem copy_fill (w w1 : World) (a : Option Addr) (n cap m : Nat) (l : List UInt8) (z : Array Value) (hb : Bytes w a n l) (hnm : n ≤ m) (hm : m ≤ maxLen)
    (hg : w1.heap[w.heap.size]? = some (.cells (madeCells z m) 5 (0, 0))) (hB : Below w.heap.size w w1) :
    ∃ w2, (Builtin.copy_ #[33, 33] 3 #[.slice (some ⟨w.heap.size, 0, none⟩) n m, .slice a n cap]).run Tryz.prog w1 = .ok (goInt n) w2 ∧
      w2.ownsRow w.heap.size 5 1 (.slice (some ⟨w.heap.size, 0, none⟩) n m) n (cellsOf l) ∧ w.grownBy w2 none := by
  obtain ⟨i0, hi, hz0, hz1, hz2⟩ := info_parts Tryz.info5
  have hu := Tryz.underlying33
  have hsz : (Tryz.prog.info? 5).map (·.size) = some 1 := by rw [hi]; simp [hz1]
  have hll : (cellsOf l).length = n := by rw [cellsOf_length, hb.1]
  by_cases h0 : n = 0
  · subst h0
    refine ⟨w1, run_copy_none (P := Tryz.prog) w1 33 33 3 5 _ a 0 m 0 cap hu hsz rfl, ⟨by rw [hll], .inr ⟨w.heap.size, m, _, rfl, Nat.le_refl _, hg, by omega, hm, by rw [size_madeCells]; omega, ?_⟩⟩, grownBy_of_below hB⟩
    have : cellsOf l = [] := List.eq_nil_of_length_eq_zero hll
    rw [this]; simp
  · obtain ⟨b, off, rfl, hc⟩ := hb.2 (by omega)
    have hsrc : ∀ j v, (cellsOf l)[j]? = some v → w1.cell? ((⟨b, off, none⟩ : Addr).add j) = some v := by
      intro j v hj
      have hjl : j < n := by have := (List.getElem?_eq_some_iff.1 hj).1; omega
      rw [cellsOf_get l j (by rw [hb.1]; exact hjl)] at hj
      have hold' : w.cell? ⟨b, off + j, none⟩ = some v := by rw [hc j hjl]; exact hj
      rw [Addr.add_lit, hB.cell (World.block_lt_of_cell? w _ hold')]
      exact hold'
    have hrun := run_copy_row (P := Tryz.prog) w1 33 33 3 5 w.heap.size 0 n m ⟨b, off, none⟩ n cap (madeCells z m) 5 (cellsOf l) hu hsz hg (by rw [hll]; exact (Nat.min_self n).symm) hsrc (by rw [hll, size_madeCells]; omega) (cellsOf_one l)
    refine ⟨_, by rw [hrun, hll], ⟨by rw [hll]; omega, .inr ⟨w.heap.size, m, _, rfl, Nat.le_refl _, setRow_heap w1 _ _ _ _ _ hg, by omega, hm, ?_, ?_⟩⟩, grownBy_of_below (below_setRow hB (Nat.le_refl _) _)⟩
    · simp [size_madeCells, hll]; omega
    · simp [← hll]

set_option maxHeartbeats 400000 in
theorem withRoom_any (a : Option Addr) (n cap more : Nat) (l : List UInt8) (w : World) (hb : Bytes w a n l) (hm : n + more ≤ 281474976710656) :
    Calls Tryz.prog 148 #[.slice a n cap, .int .i64 more] w fun e w' => e = .returned (.slice (some ⟨w.heap.size, 0, none⟩) n (n + more)) ∧
      w'.ownsRow w.heap.size 5 1 (.slice (some ⟨w.heap.size, 0, none⟩) n (n + more)) n (cellsOf l) ∧ w.grownBy w' none := by
  obtain ⟨i0, hi, hz0, hz1, hz2⟩ := info_parts Tryz.info5
  have hu := Tryz.underlying33
  go_enter Tryz.func148, Tryz.ntmps148
  go_wp2_with (at_make; refine wpList_make_part _ rfl _ _ 33 rfl 5 i0 (.int .u8 0) hu hi hz0 hz1 hz2 _ _ n (n + more) _ _ rfl rfl rfl (by omega) (by omega) hm ?_; intro w1 hg1 hb1; obtain ⟨w2, hcp, hfin⟩ := copy_fill w w1 a n cap (n + more) l _ hb (by omega) (by unfold maxLen; omega) hg1.out hb1)
  go_ret
  exact ⟨rfl, hfin⟩

/-- a row that is owned, as bytes -/
theorem ownsRow_bytes {w : World} {B g n cap : Nat} {l : List UInt8} (h : w.ownsRow B 5 1 (.slice (some ⟨g, 0, none⟩) n cap) n (cellsOf l)) : Bytes w (some ⟨g, 0, none⟩) n l ∧ B ≤ g ∧ g < w.heap.size := by
  have hll : l.length = n := by have := h.1; rw [cellsOf_length] at this; omega
  refine ⟨⟨hll, fun _ => ⟨g, 0, rfl, fun i hi => ?_⟩⟩, h.lt g rfl⟩
  have := h.cells (g := g) rfl i _ (cellsOf_get l i (by omega))
  rw [Addr.add_lit] at this
  exact this

set_option maxHeartbeats 400000 in
theorem oread_any (a : Option Addr) (n cap : Nat) (l : List UInt8) (w : World) (hb : Bytes w a n l) (hm : n ≤ 281474976710656) :
    Calls Tryz.prog 113 #[.slice a n cap] w fun e w' => ∃ r g, e = .returned (.pointer (some ⟨r, 0, none⟩)) ∧ w.heap.size ≤ r ∧ w.heap.size ≤ g ∧ Rd w' r g 0 0 l ∧ w.grownBy w' none := by
  go_enter Tryz.func113, Tryz.ntmps113
  go_wp2_with fail
  refine (withRoom_any a n cap 0 l w hb (by omega)).mono ?_
  rintro e w1 ⟨rfl, hown, hg⟩
  go_wp2
  go_ret
  have hll : l.length = n := hb.1
  obtain ⟨hby, _, hlt⟩ := ownsRow_bytes hown
  have hlt' : w.heap.size < w1.heap.size := hlt
  refine ⟨w1.heap.size, w.heap.size, rfl, hg.size, Nat.le_refl _, ?_, grownBy_trans hg (World.grownBy_alloc _ _ _)⟩
  refine ⟨?_, ?_, ?_, ?_, ?_, by omega, by unfold maxLen; omega, by omega, fun i hi => ?_⟩
  · simp
  · simp
  · simp [hll]
  · simp
  · simp
  · obtain ⟨b, off, hb1, hc⟩ := hby.2 (by omega)
    simp only [Option.some.injEq, Addr.mk.injEq, and_true] at hb1
    obtain ⟨rfl, rfl⟩ := hb1
    have := hc i (by omega)
    rw [Nat.zero_add] at this
    exact (World.grownBy_alloc w1 _ none).cell this (by simp)

end Go.Proofs.YtdjodigimhgklaaGreatDoor

/- Plain: pairs, runs, their bytes, and pairs that rise; nothing of the program is walked here. -/
namespace Go.Proofs.YtdjodigimhgklaaGreatDoor
open Go.RowKit

/-- a pair: From, To -/
abbrev Pr := Nat × Nat
def PrOk (l : List Pr) : Prop := ∀ p ∈ l, p.1 < 18446744073709551616 ∧ p.2 < 18446744073709551616
theorem PrOk.nil : PrOk [] := fun p h => by cases h
theorem PrOk.cons {p : Pr} {l : List Pr} (h1 : p.1 < 18446744073709551616) (h2 : p.2 < 18446744073709551616) (h : PrOk l) : PrOk (p :: l) := fun q hq => by
  rcases List.mem_cons.1 hq with rfl | hq
  · exact ⟨h1, h2⟩
  · exact h q hq
theorem PrOk.tail {p : Pr} {l : List Pr} (h : PrOk (p :: l)) : PrOk l := fun q hq => h q (List.mem_cons_of_mem _ hq)
theorem PrOk.head {p : Pr} {l : List Pr} (h : PrOk (p :: l)) : p.1 < 18446744073709551616 ∧ p.2 < 18446744073709551616 := h p (List.mem_cons_self ..)
theorem PrOk.app {l m : List Pr} (h : PrOk l) (k : PrOk m) : PrOk (l ++ m) := fun p hp => by
  rcases List.mem_append.1 hp with hp | hp
  · exact h p hp
  · exact k p hp
theorem PrOk.take {l : List Pr} (h : PrOk l) (n : Nat) : PrOk (l.take n) := fun p hp => h p (List.mem_of_mem_take hp)
theorem PrOk.drop {l : List Pr} (h : PrOk l) (n : Nat) : PrOk (l.drop n) := fun p hp => h p (List.mem_of_mem_drop hp)
theorem PrOk.perm {l m : List Pr} (h : PrOk l) (k : l.Perm m) : PrOk m := fun p hp => h p (k.mem_iff.2 hp)

/-- do the Froms rise, the first one from above a? -/
def risF : Nat → List Pr → Bool
  | _, [] => true
  | a, p :: r => decide (a < p.1) && risF p.1 r
/-- the Froms rise -/
def Ris (l : List Pr) : Prop := l.Pairwise fun p q => p.1 < q.1
theorem risF_iff : ∀ (l : List Pr) (a : Nat), risF a l = true ↔ Ris l ∧ ∀ p ∈ l, a < p.1
  | [], a => by simp [risF, Ris]
  | p :: r, a => by
    rw [risF, Bool.and_eq_true, decide_eq_true_eq, risF_iff r p.1]
    unfold Ris
    rw [List.pairwise_cons]
    constructor
    · rintro ⟨h1, h2, h3⟩
      refine ⟨⟨h3, h2⟩, fun q hq => ?_⟩
      rcases List.mem_cons.1 hq with rfl | hq
      · exact h1
      · exact Nat.lt_trans h1 (h3 q hq)
    · rintro ⟨⟨h1, h2⟩, h3⟩
      exact ⟨h3 p (List.mem_cons_self ..), h2, h1⟩

/-- the bytes of pairs -/
def prBytes : List Pr → List UInt8
  | [] => []
  | p :: r => wide p.1 ++ (wide p.2 ++ prBytes r)
def vhashN (b : List UInt8) : Nat := (hashTo b b.length).toNat
theorem vhashN_lt (b : List UInt8) : vhashN b < 18446744073709551616 := by
  have := hashTo_hi b b.length
  have := hashTo_lo b b.length
  unfold vhashN
  omega
theorem vhashN_int (b : List UInt8) (n : Nat) (h : b.length = n) : hashTo b n = (vhashN b : Int) := by
  subst h
  have := hashTo_lo b b.length
  unfold vhashN
  omega
def headB (l : List Pr) : List UInt8 := short l.length ++ prBytes l
/-- the bytes of a run -/
def runB (l : List Pr) : List UInt8 := headB l ++ wide (vhashN (headB l))
theorem vwide_len (x : Nat) : (wide x).length = 8 := wideTo_len x 8
theorem prBytes_len : ∀ l : List Pr, (prBytes l).length = 16 * l.length
  | [] => rfl
  | p :: r => by simp only [prBytes, List.length_append, vwide_len, prBytes_len r, List.length_cons]; omega
theorem prBytes_app : ∀ l m : List Pr, prBytes (l ++ m) = prBytes l ++ prBytes m
  | [], m => rfl
  | p :: r, m => by simp [prBytes, prBytes_app r m]
theorem runB_len (l : List Pr) : (runB l).length = (short l.length).length + 16 * l.length + 8 := by
  simp only [runB, headB, List.length_append, prBytes_len, vwide_len]

/-- the number that eight bytes make -/
def wv (l : List UInt8) : Nat := (wideVal l 8).toNat
theorem wv_int (l : List UInt8) : wideVal l 8 = (wv l : Int) := by
  have := wideVal_lo l 8
  unfold wv
  omega
theorem wv_lt (l : List UInt8) : wv l < 18446744073709551616 := by
  have := wideVal_fits l 8 (by omega)
  have := wideVal_lo l 8
  unfold wv
  omega
theorem vwideVal_app (l r : List UInt8) : ∀ k, k ≤ l.length → wideVal (l ++ r) k = wideVal l k
  | 0, _ => rfl
  | k + 1, h => by
    rw [wideVal_succ, wideVal_succ, vwideVal_app l r k (by omega)]
    congr 1
    simp [bt, List.getD, List.getElem?_append_left (show k < l.length by omega)]
theorem vwideVal_take (l : List UInt8) (k : Nat) (h : k ≤ l.length) : wideVal (l.take k) k = wideVal l k := by
  conv => rhs; rw [← List.take_append_drop k l]
  rw [vwideVal_app _ _ _ (by rw [List.length_take]; omega)]
theorem wv_wide (x : Nat) (hx : x < 18446744073709551616) (r : List UInt8) : wv (wide x ++ r) = x := by
  have := wideVal_wide x r 8 (by omega) (by omega)
  unfold wv
  rw [this]
  simp
theorem vwideVal_inj (t u : List UInt8) : ∀ k, wideVal t k = wideVal u k → ∀ i, i < k → bt t i = bt u i := by
  intro k
  induction k with
  | zero => intro _ i hi; omega
  | succ k ih =>
    intro h i hi
    rw [wideVal_succ, wideVal_succ] at h
    have a0 := bt_lo t k
    have a1 := bt_hi t k
    have b0 := bt_lo u k
    have b1 := bt_hi u k
    by_cases e : i = k
    · subst e; omega
    · exact ih (by omega) i (by omega)
theorem vbt_ext {t u : List UInt8} (hl : t.length = u.length) (h : ∀ i, i < t.length → bt t i = bt u i) : t = u := by
  refine List.ext_getElem hl fun i h1 h2 => ?_
  have := h i h1
  simp only [bt, List.getD, List.getElem?_eq_getElem h1, List.getElem?_eq_getElem h2, Option.getD_some] at this
  exact UInt8.toNat_inj.1 (by omega)
/-- eight bytes are the wide form of the number that they make -/
theorem wide_wv (t : List UInt8) (ht : t.length = 8) : wide (wv t) = t := by
  have hw := wideVal_wide (wv t) [] 8 (by omega) (by have := wv_lt t; omega)
  rw [List.append_nil] at hw
  have e : wideVal (wide (wv t)) 8 = wideVal t 8 := by rw [hw, wv_int]; simp
  exact vbt_ext (by rw [ht, vwide_len]) (fun i hi => vwideVal_inj _ t 8 e i (by rw [vwide_len] at hi; omega))
theorem wv_take (l : List UInt8) (h : 8 ≤ l.length) : wv (l.take 8) = wv l := by unfold wv; rw [vwideVal_take l 8 h]

/-- n pairs, as bytes tell them -/
def readP : List UInt8 → Nat → List Pr
  | _, 0 => []
  | b, n + 1 => (wv b, wv (b.drop 8)) :: readP (b.drop 16) n
theorem readP_len : ∀ (n : Nat) (b : List UInt8), (readP b n).length = n
  | 0, _ => rfl
  | n + 1, b => by rw [readP, List.length_cons, readP_len n]
theorem readP_ok : ∀ (n : Nat) (b : List UInt8), PrOk (readP b n)
  | 0, _ => PrOk.nil
  | n + 1, _ => PrOk.cons (wv_lt _) (wv_lt _) (readP_ok n _)
theorem readP_bytes : ∀ (l : List Pr) (r : List UInt8), PrOk l → readP (prBytes l ++ r) l.length = l
  | [], _, _ => rfl
  | (x, y) :: l, r, h => by
    have h0 := h.head
    have e8 : (wide x ++ (wide y ++ prBytes l) ++ r).drop 8 = wide y ++ (prBytes l ++ r) := by
      rw [List.append_assoc, List.drop_append_of_le_length (by rw [vwide_len]; omega), List.drop_of_length_le (by rw [vwide_len]; omega), List.nil_append, List.append_assoc]
    have e16 : (wide x ++ (wide y ++ prBytes l) ++ r).drop 16 = prBytes l ++ r := by
      rw [show (16 : Nat) = 8 + 8 from rfl, ← List.drop_drop, e8, List.drop_append_of_le_length (by rw [vwide_len]; omega), List.drop_of_length_le (by rw [vwide_len]; omega), List.nil_append]
    simp only [prBytes, List.length_cons, readP]
    rw [e16, e8, readP_bytes l r h.tail, wv_wide y h0.2, List.append_assoc, wv_wide x h0.1]
theorem bytes_readP : ∀ (n : Nat) (b : List UInt8), 16 * n ≤ b.length → prBytes (readP b n) = b.take (16 * n)
  | 0, b, _ => by simp [readP, prBytes]
  | n + 1, b, h => by
    rw [readP, prBytes, bytes_readP n _ (by rw [List.length_drop]; omega)]
    have e1 : wide (wv b) = b.take 8 := by rw [← wv_take b (by omega)]; exact wide_wv _ (by rw [List.length_take]; omega)
    have e2 : wide (wv (b.drop 8)) = (b.drop 8).take 8 := by rw [← wv_take (b.drop 8) (by rw [List.length_drop]; omega)]; exact wide_wv _ (by rw [List.length_take, List.length_drop]; omega)
    rw [e1, e2, show 16 * (n + 1) = 8 + (8 + 16 * n) by omega, List.take_add, List.take_add, List.drop_drop]
/-- the k-th pair -/
theorem readP_get : ∀ (n : Nat) (b : List UInt8) (k : Nat), k < n → (readP b n)[k]? = some (wv (b.drop (16 * k)), wv (b.drop (16 * k + 8)))
  | 0, _, k, h => by omega
  | n + 1, b, 0, _ => rfl
  | n + 1, b, k + 1, h => by
    rw [readP, List.getElem?_cons_succ, readP_get n _ k (by omega), List.drop_drop, List.drop_drop]
    rw [show 16 + 16 * k = 16 * (k + 1) by omega, show 16 + (16 * k + 8) = 16 * (k + 1) + 8 by omega]
theorem readP_take : ∀ (n k : Nat) (b : List UInt8), k ≤ n → (readP b n).take k = readP b k
  | n, 0, b, _ => by simp [readP]
  | 0, k + 1, b, h => by omega
  | n + 1, k + 1, b, h => by rw [readP, readP, List.take_succ_cons, readP_take n k _ (by omega)]

/-- what may be a run's pairs -/
structure GoodV (l : List Pr) : Prop where
  ok : PrOk l
  ris : risF 0 l = true
  len : l.length ≤ 65536
/-- the number at the beginning fits what is there -/
def FitB (b : List UInt8) : Prop := (num b).2.2 = 0 ∧ (num b).1 ≤ 65536 ∧ b.length = (num b).2.1 + 16 * (num b).1.toNat + 8
instance (b : List UInt8) : Decidable (FitB b) := by unfold FitB; infer_instance
/-- the pairs that bytes tell which fit -/
def tellP (b : List UInt8) : List Pr := readP (b.drop (num b).2.1) (num b).1.toNat
/-- the pairs of a run of these bytes -/
def pairsR (b : List UInt8) : Option (List Pr) :=
  if FitB b then if wv (b.drop (b.length - 8)) = vhashN (b.take (b.length - 8)) ∧ risF 0 (tellP b) = true then some (tellP b) else none else none

/-- bytes that fit, and their parts -/
theorem fit_parts {b : List UInt8} (h : FitB b) : (tellP b).length = (num b).1.toNat ∧ b.take (b.length - 8) = headB (tellP b) ∧ (b.drop (b.length - 8)).length = 8 ∧ PrOk (tellP b) ∧ (tellP b).length ≤ 65536 := by
  obtain ⟨h1, h2, h3⟩ := h
  obtain ⟨x, k, e, hn⟩ : ∃ x k e, num b = (x, k, e) := ⟨_, _, _, rfl⟩
  unfold tellP
  rw [hn] at h1 h2 h3 ⊢
  simp only at h1 h2 h3 ⊢
  subst h1
  obtain ⟨X, rfl, hs, k1, k2, hk, hX⟩ := num_back b x k hn
  rw [Int.toNat_natCast] at h3 ⊢
  have hl : (readP (b.drop k) X).length = X := readP_len _ _
  refine ⟨hl, ?_, by rw [List.length_drop]; omega, readP_ok _ _, by rw [hl]; omega⟩
  unfold headB
  rw [hl, bytes_readP X _ (by rw [List.length_drop]; omega), hs, show b.length - 8 = k + 16 * X by omega, List.take_add]
theorem pairs_good {b : List UInt8} {l : List Pr} (h : pairsR b = some l) : GoodV l ∧ b = runB l := by
  unfold pairsR at h
  split at h
  · rename_i hf
    split at h
    · rename_i hc
      cases h
      obtain ⟨h1, h2, h3, h4, h5⟩ := fit_parts hf
      refine ⟨⟨h4, hc.2, h5⟩, ?_⟩
      unfold runB
      rw [← h2, ← hc.1, wide_wv _ h3, List.take_append_drop]
    · cases h
  · cases h
theorem runB_fit {l : List Pr} (hok : PrOk l) (hn : l.length ≤ 65536) : FitB (runB l) ∧ tellP (runB l) = l ∧ (runB l).take ((runB l).length - 8) = headB l ∧ wv ((runB l).drop ((runB l).length - 8)) = vhashN (headB l) ∧ (num (runB l)).2.1 = (short l.length).length := by
  have e : runB l = short l.length ++ (prBytes l ++ wide (vhashN (headB l))) := by rw [runB, headB, List.append_assoc]
  have hnum : num (runB l) = ((l.length : Int), (short l.length).length, 0) := by rw [e]; exact num_short_app _ (by omega) _
  have hlen := runB_len l
  have hh : (headB l).length = (runB l).length - 8 := by rw [runB, List.length_append, vwide_len]; omega
  refine ⟨?_, ?_, ?_, ?_, by rw [hnum]⟩
  · unfold FitB
    rw [hnum]
    refine ⟨rfl, by show ((l.length : Nat) : Int) ≤ 65536; omega, ?_⟩
    rw [hlen]
    simp
  · unfold tellP
    rw [hnum]
    simp only [Int.toNat_natCast]
    rw [e, List.drop_left]
    exact readP_bytes l _ hok
  · rw [← hh, runB, List.take_left]
  · rw [← hh, runB, List.drop_left]
    have := wv_wide (vhashN (headB l)) (vhashN_lt _) []
    rwa [List.append_nil] at this
theorem pairs_runB {l : List Pr} (h : GoodV l) : pairsR (runB l) = some l := by
  obtain ⟨h1, h2, h3, h4, _⟩ := runB_fit h.ok h.len
  unfold pairsR
  rw [if_pos h1, h2, h3, h4, if_pos ⟨rfl, h.ris⟩]
theorem pairs_iff (b : List UInt8) (l : List Pr) : pairsR b = some l ↔ GoodV l ∧ b = runB l :=
  ⟨pairs_good, fun ⟨h, e⟩ => by rw [e]; exact pairs_runB h⟩
theorem runB_inj {l m : List Pr} (hl : GoodV l) (hm : GoodV m) (h : runB l = runB m) : l = m := by
  have := pairs_runB hl
  rw [h, pairs_runB hm] at this
  exact (Option.some.inj this).symm

/-- the To of the first pair with that From -/
def lookP : List Pr → Nat → Option Nat
  | [], _ => none
  | p :: r, x => if p.1 = x then some p.2 else lookP r x
theorem look_none : ∀ (l : List Pr) (x : Nat), lookP l x = none ↔ ∀ p ∈ l, p.1 ≠ x
  | [], x => by simp [lookP]
  | p :: r, x => by
    rw [lookP]
    split
    · rename_i h
      simp [h]
    · rename_i h
      rw [look_none r x]
      simp [h]
theorem look_mem {l : List Pr} {x y : Nat} (h : lookP l x = some y) : (x, y) ∈ l := by
  induction l with
  | nil => cases h
  | cons p r ih =>
    rw [lookP] at h
    split at h
    · rename_i e
      cases h
      rw [← e]
      exact List.mem_cons_self ..
    · exact List.mem_cons_of_mem _ (ih h)
theorem look_app : ∀ (l m : List Pr) (x : Nat), lookP (l ++ m) x = (lookP l x).or (lookP m x)
  | [], m, x => rfl
  | p :: r, m, x => by
    rw [List.cons_append, lookP, lookP]
    split
    · rfl
    · exact look_app r m x
/-- pairs that rise are told by what is found in them -/
theorem ris_ext : ∀ (l m : List Pr), Ris l → Ris m → (∀ x, lookP l x = lookP m x) → l = m
  | [], [], _, _, _ => rfl
  | [], q :: m, _, _, h => by have := h q.1; simp [lookP] at this
  | p :: l, [], _, _, h => by have := h p.1; simp [lookP] at this
  | p :: l, q :: m, hl, hm, h => by
    have hl' := List.pairwise_cons.1 hl
    have hm' := List.pairwise_cons.1 hm
    have e1 : p.1 = q.1 := by
      rcases Nat.lt_trichotomy p.1 q.1 with hlt | heq | hgt
      · have h1 := h p.1
        have h2 : lookP (q :: m) p.1 = none := (look_none _ _).2 fun r hr => by
          rcases List.mem_cons.1 hr with rfl | hr
          · omega
          · have := hm'.1 r hr; omega
        rw [h2, lookP, if_pos rfl] at h1
        cases h1
      · exact heq
      · have h1 := h q.1
        have h2 : lookP (p :: l) q.1 = none := (look_none _ _).2 fun r hr => by
          rcases List.mem_cons.1 hr with rfl | hr
          · omega
          · have := hl'.1 r hr; omega
        rw [h2, lookP, if_pos rfl] at h1
        cases h1
    have e2 : p.2 = q.2 := by
      have := h p.1
      rw [lookP, if_pos rfl, lookP, if_pos e1.symm] at this
      exact Option.some.inj this
    have e : p = q := by rw [Prod.ext_iff]; exact ⟨e1, e2⟩
    subst e
    congr 1
    refine ris_ext l m hl'.2 hm'.2 fun x => ?_
    by_cases hx : p.1 = x
    · subst hx
      rw [(look_none l p.1).2 fun r hr => by have := hl'.1 r hr; omega, (look_none m p.1).2 fun r hr => by have := hm'.1 r hr; omega]
    · have := h x
      rwa [lookP, if_neg hx, lookP, if_neg hx] at this
theorem ris_mem_look {l : List Pr} (h : Ris l) {p : Pr} (hp : p ∈ l) : lookP l p.1 = some p.2 := by
  induction l with
  | nil => cases hp
  | cons q r ih =>
    have h' := List.pairwise_cons.1 h
    rw [lookP]
    rcases List.mem_cons.1 hp with rfl | hp
    · rw [if_pos rfl]
    · have := h'.1 p hp
      rw [if_neg (by omega), ih h'.2 hp]
/-- each From stands once -/
def Once (l : List Pr) : Prop := (l.map (·.1)).Nodup
instance (l : List Pr) : Decidable (Once l) := by unfold Once; infer_instance
theorem Ris.once {l : List Pr} (h : Ris l) : Once l := by
  unfold Once
  rw [List.Nodup, List.pairwise_map]
  exact h.imp fun h e => by omega
theorem once_mem_look {l : List Pr} (h : Once l) {p : Pr} (hp : p ∈ l) : lookP l p.1 = some p.2 := by
  induction l with
  | nil => cases hp
  | cons q r ih =>
    unfold Once at h
    rw [List.map_cons, List.nodup_cons] at h
    rw [lookP]
    rcases List.mem_cons.1 hp with rfl | hp
    · rw [if_pos rfl]
    · rw [if_neg (fun e => h.1 (by rw [e]; exact List.mem_map_of_mem hp)), ih h.2 hp]
theorem look_perm {l m : List Pr} (hl : Once l) (hp : l.Perm m) (x : Nat) : lookP l x = lookP m x := by
  have hm : Once m := (hp.map _).nodup_iff.1 hl
  cases h : lookP l x with
  | none =>
    exact ((look_none m x).2 fun p hpm => (look_none l x).1 h p (hp.mem_iff.2 hpm)).symm
  | some y =>
    exact (once_mem_look hm (hp.mem_iff.1 (look_mem h))).symm
end Go.Proofs.YtdjodigimhgklaaGreatDoor

/- Laws for the walk: one byte appended to a row of bytes of the call's own, with room and without; bytes as a string. -/
namespace Go.Proofs.YtdjodigimhgklaaGreatDoor
open Go.RowKit

/-- append(out, c) where out has room: the byte was laid into a block of its own just before -/
theorem wpList_push_fits {wr : World} {ops : Array Oper} {rest : List Oper} {o : Oper} {a : Act} {Q : Exit → Act → World → Prop} (z : Int)
    (hgd : o.guard = none) (s x : Operand) (hop : o.op = Op.call { callee := Callee.builtin Builtin.append, args := #[s, x], argTypes := #[33, 33] })
    (base g m cap : Nat) (xs : List Value) (hs : a.eval s = .slice (some ⟨g, 0, none⟩) m cap) (hx : a.eval x = .slice (some ⟨wr.heap.size, 0, none⟩) 1 1)
    (hown : wr.ownsRow base 5 1 (.slice (some ⟨g, 0, none⟩) m cap) m xs) (hfit : m + 1 ≤ cap)
    (hK : ∀ w', w'.ownsRow base 5 1 (.slice (some ⟨g, 0, none⟩) (m + 1) cap) (m + 1) (xs ++ [.int .u8 z]) → wr.grownBy w' (some g) → wpList Tryz.prog ops Q rest (a.put o.dst (.slice (some ⟨g, 0, none⟩) (m + 1) cap)) w') :
    wpList Tryz.prog ops Q (o :: rest) a (wr.alloc (.cells #[.int .u8 z] 5)) := by
  obtain ⟨i0, hi, hz0, hz1, hz2⟩ := info_parts Tryz.info5
  refine wpList_append_fits _ hgd s x 33 hop base 5 i0 1 Tryz.underlying33 hi hz1 g m cap xs hs (hown.alloc _) ⟨wr.heap.size, 0, none⟩ 1 1 [.int .u8 z] hx rfl ?_ ?_ hfit ?_
  · intro j u hj
    match j, hj with
    | 0, hj => simp at hj; subst hj; simp [Addr.add]
  · intro u hu; simp at hu; subst hu; rfl
  · intro w' h1 h2
    exact hK w' h1 (grownBy_trans (World.grownBy_alloc _ _ _) h2)

/-- append(out, c) where nothing is known of the room: the new value, and where it lies, are the tape's -/
theorem wpList_push_own {wr : World} {ops : Array Oper} {rest : List Oper} {o : Oper} {a : Act} {Q : Exit → Act → World → Prop} (z : Int)
    (hgd : o.guard = none) (s x : Operand) (hop : o.op = Op.call { callee := Callee.builtin Builtin.append, args := #[s, x], argTypes := #[33, 33] })
    (base m : Nat) (v : Value) (xs : List Value) (hs : a.eval s = v) (hx : a.eval x = .slice (some ⟨wr.heap.size, 0, none⟩) 1 1)
    (hown : wr.ownsRow base 5 1 v m xs) (hm : m + 1 ≤ 140737488355328) (hb : base ≤ wr.heap.size)
    (hK : ∀ v' w', w'.ownsRow base 5 1 v' (m + 1) (xs ++ [.int .u8 z]) → Below base wr w' → wpList Tryz.prog ops Q rest (a.put o.dst v') w') :
    wpList Tryz.prog ops Q (o :: rest) a (wr.alloc (.cells #[.int .u8 z] 5)) := by
  obtain ⟨i0, hi, hz0, hz1, hz2⟩ := info_parts Tryz.info5
  refine wpList_append_own _ hgd s x 33 hop base 5 i0 (.int .u8 0) 1 1 Tryz.underlying33 hi hz0 hz1 hz2 rfl (by omega) v m xs hs (hown.alloc _) ⟨wr.heap.size, 0, none⟩ 1 1 [.int .u8 z] hx rfl ?_ ?_ (by unfold maxLen; omega) (by omega) (by simp; omega) ?_
  · intro j u hj
    match j, hj with
    | 0, hj => simp at hj; subst hj; simp [Addr.add]
  · intro u hu; simp at hu; subst hu; rfl
  · intro v' w' h1 h2 _
    exact hK v' w' h1 (((Below.refl base wr).alloc hb _).grown h2 (by simp; omega) (fun k hk => (hown.lt k hk).1))

/-- what a value that owns bytes is -/
theorem ownsRow_open {w : World} {B n : Nat} {v : Value} {l : List UInt8} (h : w.ownsRow B 5 1 v n (cellsOf l)) : ∃ ad cap, v = .slice ad n cap ∧ Bytes w ad n l ∧ n = l.length ∧ (∀ x, ad = some x → B ≤ x.block ∧ x.block < w.heap.size) := by
  have hll : l.length = n := by have := h.1; rw [cellsOf_length] at this; omega
  rcases h.2 with ⟨rfl, rfl⟩ | ⟨g, cap, cur, rfl, _⟩
  · exact ⟨none, 0, rfl, ⟨hll, fun h0 => by omega⟩, hll.symm, by simp⟩
  · refine ⟨some ⟨g, 0, none⟩, cap, rfl, (ownsRow_bytes h).1, hll.symm, fun x hx => ?_⟩
    obtain rfl := Option.some.inj hx
    exact (ownsRow_bytes h).2

end Go.Proofs.YtdjodigimhgklaaGreatDoor
