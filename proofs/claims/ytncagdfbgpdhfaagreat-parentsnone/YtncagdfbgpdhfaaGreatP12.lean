import Derived.Test.YtncagdfbgpdhfaaGreatP11
import Derived.Test.YtncagdfbgpdhfaaGreatP04
import Derived.Deep.Cut
import Derived.Test.YtncagdfbgpdhfaaGreatP01
import Derived.Test.YtncagdfbgpdhfaaGreatP06
/- Bytes, read as an object. -/
namespace Go.Proofs.YtncagdfbgpdhfaaGreat
open Go.RowKit

attribute [local go_sem] Oper.semAt_some

theorem end_st (w : World) (r g p : Nat) (e : Int) (l : List UInt8) (h : Rd w r g p e l) :
    Calls Tryz.prog 130 #[.pointer (some ⟨r, 0, none⟩)] w fun x w' => ∃ z : Int, x = .returned (.int .i64 z) ∧ (z = 0 ↔ e = 0 ∧ p = l.length) ∧ Below w.heap.size w w' := by
  have hp := h.hp
  by_cases he : e = 0
  · subst he
    refine (end_ok w r g p (l.length - p) l h (by omega)).mono fun x w' hx => ?_
    obtain ⟨hx, k, rfl⟩ := hx
    refine ⟨_, hx, ?_, below_drewN (Below.refl _ _) k⟩
    split
    · constructor
      · intro h; omega
      · intro h; omega
    · constructor
      · intro _; omega
      · intro _; rfl
  · refine (end_err w r e h.c1 (by simp [he])).mono fun x w' hx => ⟨e, hx.1, ?_, by rw [hx.2]; exact Below.refl _ _⟩
    constructor
    · intro h; exact absurd h he
    · intro h; exact h.1
theorem raw_st (w : World) (r g p m n : Nat) (l : List UInt8) (h : Rd w r g p 0 l) (hm : l.length = p + m) (hn : n ≤ m) (hlim : m ≤ 281474976710656) :
    Calls Tryz.prog 127 #[.pointer (some ⟨r, 0, none⟩), .int .i64 n] w fun e w' => ∃ ad c, e = .returned (.slice (some ad) n c) ∧ Bytes w' (some ad) n ((l.drop p).take n) ∧ Rd w' r g (p + n) 0 l ∧ w.grownBy w' (some r) := by
  have Hm : Hid (l.length = p + m) := hm
  clear hm
  go_enter Tryz.func127, Tryz.ntmps127
  go_wp2_with fail
  refine (take_yes _ r g p m n l h Hm.out hn).mono ?_
  rintro e w1 ⟨a, c, rfl, hb, hr, hg⟩
  go_wp2_with fail
  refine (withRoom_any a n c 0 _ _ hb (by omega)).mono ?_
  rintro e w2 ⟨rfl, hown, hg2⟩
  go_wp2
  go_ret
  refine ⟨_, _, rfl, (ownsRow_bytes hown).1, hr.kept hg2 (by simp) (by simp), grownBy_trans hg (grownBy_wide hg2)⟩
/-- an object, as plain data -/
inductive Ob where
  | blob (b : List UInt8)
  | tree (l : List Ent)
  | com (c : Int × List Int × ByteArray × Int × ByteArray)
/-- the object that bytes have the form of -/
def decR (l : List UInt8) : Option Ob :=
  if (byteR l 0 0).1 = 98 then some (.blob (l.drop 1))
  else if (byteR l 0 0).1 = 116 then
    (match (treeR l 1 0).1 with
    | none => none
    | some ents => if (treeR l 1 0).2.2 = 0 ∧ (treeR l 1 0).2.1 = l.length then some (.tree ents) else none)
  else if (byteR l 0 0).1 = 99 then (if (comR l 1 0).2.2 = 0 ∧ (comR l 1 0).2.1 = l.length then some (.com (comR l 1 0).1) else none)
  else none
/-- how an object that is read lies in memory -/
def DecOut (w : World) : Option Ob → Ending → World → Prop
  | none, x, _ => x = .returned .nilIface
  | some (.blob b), x, w' => ∃ ad cp, x = .returned (.iface 82 (.agg #[.slice (some ad) b.length cp])) ∧ Bytes w' (some ad) b.length b
  | some (.tree l), x, w' => ∃ ad cp, x = .returned (trV ad l.length cp) ∧ w'.ownsRow w.heap.size 179 3 (.slice ad l.length cp) l.length (entCells l)
  | some (.com c), x, w' => ComOut w c x w'
theorem byte_head {l : List UInt8} (h : (byteR l 0 0).1 ≠ 0) : byteR l 0 0 = ((byteR l 0 0).1, 1, 0) ∧ 1 ≤ l.length := by
  unfold byteR at h ⊢
  rw [if_neg (by simp)] at h ⊢
  by_cases hp : 0 < l.length
  · rw [if_pos hp]; exact ⟨rfl, hp⟩
  · rw [if_neg hp] at h; exact absurd rfl h
theorem below_of_gr {w W W' : World} {r : Nat} (h : Below w.heap.size w W) (hg : W.grownBy W' (some r)) (hr : w.heap.size ≤ r) : Below w.heap.size w W' := h.grown hg h.size (fun k hk => by cases hk; exact hr)
theorem row_lower' {w w1 W : World} {t : TypeId} {z n : Nat} {v : Value} {xs : List Value} (h : W.ownsRow w1.heap.size t z v n xs) (hl : w.heap.size ≤ w1.heap.size) : W.ownsRow w.heap.size t z v n xs := by
  refine ⟨h.1, ?_⟩
  rcases h.2 with h2 | ⟨g', cap, cur, e', hb, h3⟩
  · exact .inl h2
  · exact .inr ⟨g', cap, cur, e', by omega, h3⟩
theorem row_keep {W W' : World} {B n : Nat} {t : TypeId} {z : Nat} {v : Value} {xs : List Value} (h : W.ownsRow B t z v n xs) (hB : Below W.heap.size W W') : W'.ownsRow B t z v n xs :=
  h.kept (row := none) ⟨hB.os, hB.tape, hB.output, hB.size, fun k hk _ => hB.block k hk⟩ (by cases v.ownBlock <;> simp)

set_option maxRecDepth 20000 in
set_option maxHeartbeats 4000000 in
theorem decode_any (a : Option Addr) (n cap : Nat) (l : List UInt8) (w : World) (hb : Bytes w a n l) (hn : n ≤ 549755813888) :
    Calls Tryz.prog 99 #[.slice a n cap] w fun x w' => DecOut w (decR l) x w' ∧ Below w.heap.size w w' := by
  have hrd := oread_any a n cap l w hb (by omega)
  have hll := hb.1
  by_cases h98 : (byteR l 0 0).1 = 98
  · obtain ⟨hb1, hb2⟩ := byte_head (l := l) (by rw [h98]; decide)
    have hdec : decR l = some (.blob (l.drop 1)) := by unfold decR; rw [if_pos h98]
    rw [h98] at hb1
    rw [hdec]
    have HB : Hid (byteR l 0 0 = (98, 1, 0)) := hb1
    obtain ⟨m, hm⟩ : ∃ m, l.length = 1 + m := ⟨l.length - 1, by omega⟩
    have Hm : Hid (l.length = 1 + m) := hm
    have hm2 : m ≤ 549755813888 := by omega
    clear hb1 hb2 hdec hm hll hb h98
    go_enter Tryz.func99, Tryz.ntmps99
    go_wp2_with first
      | (go_at_call 91; refine hrd.mono ?_; clear hrd; rintro y w1 ⟨r, g, rfl, hr, hg, hR1, hG1⟩; have B1 : Hid (Below w.heap.size w w1) := ⟨hG1.os, hG1.tape, hG1.output, hG1.size, fun k hk => hG1.block k hk (by simp)⟩; have hby := byte_st w1 r g 0 0 l hR1; rw [HB.out] at hby; have hrl : r < w1.heap.size := World.block_lt_of_cell? w1 _ hR1.c0; clear hR1 hG1)
      | (go_at_call 126; refine hby.mono ?_; clear hby; rintro y w2 ⟨rfl, hR2, hG2⟩; have R2 : Hid (Rd w2 r g 1 0 l ∧ Below w.heap.size w w2) := ⟨hR2, below_of_gr B1.out hG2 hr⟩; have hr2 : r < w2.heap.size := Nat.lt_of_lt_of_le hrl hG2.size; clear hR2 hG2 B1)
      | (go_at_call 92; refine (left_any _ r g 1 m 0 l R2.out.1 Hm.out).mono ?_; rintro y w3 ⟨rfl, kk, hw3⟩; have R3 : Hid (Rd w3 r g 1 0 l ∧ Below w.heap.size w w3) := ⟨by rw [hw3]; exact R2.out.1.drewN kk, by rw [hw3]; exact below_drewN R2.out.2 kk⟩; clear hw3 R2)
      | (go_at_call 127; refine (raw_st _ r g 1 m m l R3.out.1 Hm.out (Nat.le_refl _) (by omega)).mono ?_; rintro y w4 ⟨ad, cp, rfl, hy4, hR4, hG4⟩; have R4 : Hid (Rd w4 r g (1 + m) 0 l ∧ Below w.heap.size w w4 ∧ Bytes w4 (some ad) m ((l.drop 1).take m)) := ⟨hR4, below_of_gr R3.out.2 hG4 hr, hy4⟩; clear hR4 hG4 hy4 R3)
      | (go_at_call 130; refine (end_st _ r g _ _ l R4.out.1).mono ?_; rintro y w5 ⟨z, rfl, hz, hB5⟩; obtain rfl : z = 0 := hz.2 ⟨rfl, Hm.out.symm⟩; have R5 : Hid (Below w.heap.size w w5 ∧ Bytes w5 (some ad) m ((l.drop 1).take m)) := ⟨R4.out.2.1.trans (hB5.mono R4.out.2.1.size), bytes_below R4.out.2.2 hB5⟩; clear hz hB5 R4)
    go_ret
    have h1 : (l.drop 1).length = m := by rw [List.length_drop, Hm.out]; omega
    refine ⟨⟨ad, cp, by rw [h1]; rfl, ?_⟩, R5.out.1⟩
    have h2 := R5.out.2
    rw [List.take_of_length_le (by omega)] at h2
    rw [h1]
    exact h2
  · have i98 : ((byteR l 0 0).1 == 98) = false := beq_eq_false_iff_ne.2 h98
    by_cases h116 : (byteR l 0 0).1 = 116
    · obtain ⟨hb1, hb2⟩ := byte_head (l := l) (by rw [h116]; decide)
      rw [h116] at hb1
      have HB : Hid (byteR l 0 0 = (116, 1, 0)) := hb1
      obtain ⟨D, hD⟩ : ∃ D, D = decR l := ⟨_, rfl⟩
      have hD' := hD
      unfold decR at hD'
      rw [if_neg h98, if_pos h116] at hD'
      have HD : Hid (D = match (treeR l 1 0).1 with
        | none => none
        | some ents => if (treeR l 1 0).2.2 = 0 ∧ (treeR l 1 0).2.1 = l.length then some (.tree ents) else none) := hD'
      rw [← hD]
      have HL : Hid (1 ≤ l.length ∧ l.length ≤ 549755813888) := ⟨hb2, by omega⟩
      obtain ⟨⟨to, tp, te⟩, hT⟩ : ∃ y, y = treeR l 1 0 := ⟨_, rfl⟩
      rw [← hT] at HD
      have HTR : Hid (∀ W r g, Rd W r g 1 0 l → r < W.heap.size → g < W.heap.size → Calls Tryz.prog 128 #[.pointer (some ⟨r, 0, none⟩)] W fun x w' => Rd w' r g tp te l ∧ W.grownBy w' (some r) ∧ TreeOut W to x w') := fun W r g hW h1 h2 => by
        have := readTree_any W r g 1 0 l hW h1 h2 HL.out.2
        rw [← hT] at this
        exact this
      clear hb1 hb2 hll hb h98 h116 hD hD' hT i98
      simp only at HD
      cases to with
      | none =>
        obtain rfl : D = none := HD.out
        clear HD
        go_enter Tryz.func99, Tryz.ntmps99
        go_upto_if 27 with (first
          | (go_at_call 91; refine hrd.mono ?_; clear hrd; rintro y w1 ⟨r, g, rfl, hr, hg, hR1, hG1⟩; have B1 : Hid (Below w.heap.size w w1) := ⟨hG1.os, hG1.tape, hG1.output, hG1.size, fun k hk => hG1.block k hk (by simp)⟩; have hby := byte_st w1 r g 0 0 l hR1; rw [HB.out] at hby; have hrl : r < w1.heap.size := World.block_lt_of_cell? w1 _ hR1.c0; clear hR1 hG1)
          | (go_at_call 126; refine hby.mono ?_; clear hby; rintro y w2 ⟨rfl, hR2, hG2⟩; have R2 : Hid (Rd w2 r g 1 0 l ∧ Below w.heap.size w w2) := ⟨hR2, below_of_gr B1.out hG2 hr⟩; have hr2 : r < w2.heap.size := Nat.lt_of_lt_of_le hrl hG2.size; clear hR2 hG2 B1)
          | (go_at_call 128; have hg2 : g < w2.heap.size := World.block_lt_of_cell? w2 _ (R2.out.1.row 0 HL.out.1); refine (HTR.out _ r g R2.out.1 hr2 hg2).mono ?_; rintro y w3 ⟨hR3, hG3, hO3⟩; have hO3' : y = .returned .nilIface := hO3; subst hO3'; have R3 : Hid (Rd w3 r g tp te l ∧ Below w.heap.size w w3) := ⟨hR3, below_of_gr R2.out.2 hG3 hr⟩; clear hR3 hG3 hO3 R2)
          | (go_at_call 130; refine (end_st _ r g _ _ l R3.out.1).mono ?_; rintro y w5 ⟨z, rfl, hz, hB5⟩; have R5 : Hid (Below w.heap.size w w5) := R3.out.2.trans (hB5.mono R3.out.2.size); clear hz hB5 R3))
        by_cases hz0 : z = 0
        · subst hz0
          go_wp2
          go_ret
          exact ⟨rfl, R5.out⟩
        · have z1 : (z != 0) = true := by simp [hz0]
          have z2 : (z == 0) = false := by simp [hz0]
          go_wp2
          go_ret
          exact ⟨rfl, R5.out⟩
      | some ents =>
        simp only at HD
        go_enter Tryz.func99, Tryz.ntmps99
        go_upto_if 27 with (first
          | (go_at_call 91; refine hrd.mono ?_; clear hrd; rintro y w1 ⟨r, g, rfl, hr, hg, hR1, hG1⟩; have B1 : Hid (Below w.heap.size w w1) := ⟨hG1.os, hG1.tape, hG1.output, hG1.size, fun k hk => hG1.block k hk (by simp)⟩; have hby := byte_st w1 r g 0 0 l hR1; rw [HB.out] at hby; have hrl : r < w1.heap.size := World.block_lt_of_cell? w1 _ hR1.c0; clear hR1 hG1)
          | (go_at_call 126; refine hby.mono ?_; clear hby; rintro y w2 ⟨rfl, hR2, hG2⟩; have R2 : Hid (Rd w2 r g 1 0 l ∧ Below w.heap.size w w2) := ⟨hR2, below_of_gr B1.out hG2 hr⟩; have hr2 : r < w2.heap.size := Nat.lt_of_lt_of_le hrl hG2.size; clear hR2 hG2 B1)
          | (go_at_call 128; have hg2 : g < w2.heap.size := World.block_lt_of_cell? w2 _ (R2.out.1.row 0 HL.out.1); refine (HTR.out _ r g R2.out.1 hr2 hg2).mono ?_; rintro y w3 ⟨hR3, hG3, hO3⟩; obtain ⟨ad, cp, hy, hO3'⟩ := hO3; subst hy; have R3 : Hid (Rd w3 r g tp te l ∧ Below w.heap.size w w3 ∧ w3.ownsRow w.heap.size 179 3 (.slice ad ents.length cp) ents.length (entCells ents)) := ⟨hR3, below_of_gr R2.out.2 hG3 hr, row_lower' hO3' R2.out.2.size⟩; clear hR3 hG3 hO3' R2)
          | (go_at_call 130; refine (end_st _ r g _ _ l R3.out.1).mono ?_; rintro y w5 ⟨z, rfl, hz, hB5⟩; have HZ : Hid (z = 0 ↔ te = 0 ∧ tp = l.length) := hz; have R5 : Hid (Below w.heap.size w w5 ∧ w5.ownsRow w.heap.size 179 3 (.slice ad ents.length cp) ents.length (entCells ents)) := ⟨R3.out.2.1.trans (hB5.mono R3.out.2.1.size), row_keep R3.out.2.2 hB5⟩; clear hz hB5 R3))
        by_cases hz0 : z = 0
        · have hD := HD.out
          rw [if_pos (HZ.out.1 hz0)] at hD
          subst hz0 hD
          clear HD HZ
          go_wp2
          go_ret
          exact ⟨⟨ad, cp, rfl, R5.out.2⟩, R5.out.1⟩
        · have hD := HD.out
          rw [if_neg (fun h => hz0 (HZ.out.2 h))] at hD
          subst hD
          have z1 : (z != 0) = true := by simp [hz0]
          have z2 : (z == 0) = false := by simp [hz0]
          clear HD HZ
          go_wp2
          go_ret
          exact ⟨rfl, R5.out.1⟩
    · have i116 : ((byteR l 0 0).1 == 116) = false := beq_eq_false_iff_ne.2 h116
      by_cases h99 : (byteR l 0 0).1 = 99
      · obtain ⟨hb1, hb2⟩ := byte_head (l := l) (by rw [h99]; decide)
        rw [h99] at hb1
        have HB : Hid (byteR l 0 0 = (99, 1, 0)) := hb1
        obtain ⟨D, hD⟩ : ∃ D, D = decR l := ⟨_, rfl⟩
        have hD' := hD
        unfold decR at hD'
        rw [if_neg h98, if_neg h116, if_pos h99] at hD'
        have HD : Hid (D = if (comR l 1 0).2.2 = 0 ∧ (comR l 1 0).2.1 = l.length then some (.com (comR l 1 0).1) else none) := hD'
        rw [← hD]
        have HL : Hid (1 ≤ l.length ∧ l.length ≤ 549755813888) := ⟨hb2, by omega⟩
        obtain ⟨⟨co, tp, te⟩, hT⟩ : ∃ y, y = comR l 1 0 := ⟨_, rfl⟩
        rw [← hT] at HD
        have HTR : Hid (∀ W r g, Rd W r g 1 0 l → r < W.heap.size → g < W.heap.size → Calls Tryz.prog 129 #[.pointer (some ⟨r, 0, none⟩)] W fun x w' => Rd w' r g tp te l ∧ W.grownBy w' (some r) ∧ ComOut W co x w') := fun W r g hW h1 h2 => by
          have := readCommit_any W r g 1 0 l hW h1 h2 HL.out.2
          rw [← hT] at this
          exact this
        clear hb1 hb2 hll hb h98 h116 h99 hD hD' hT i98 i116
        simp only at HD
        obtain ⟨c1, c2, c3, c4, c5⟩ := co
        go_enter Tryz.func99, Tryz.ntmps99
        go_upto_if 27 with (first
          | (go_at_call 91; refine hrd.mono ?_; clear hrd; rintro y w1 ⟨r, g, rfl, hr, hg, hR1, hG1⟩; have B1 : Hid (Below w.heap.size w w1) := ⟨hG1.os, hG1.tape, hG1.output, hG1.size, fun k hk => hG1.block k hk (by simp)⟩; have hby := byte_st w1 r g 0 0 l hR1; rw [HB.out] at hby; have hrl : r < w1.heap.size := World.block_lt_of_cell? w1 _ hR1.c0; clear hR1 hG1)
          | (go_at_call 126; refine hby.mono ?_; clear hby; rintro y w2 ⟨rfl, hR2, hG2⟩; have R2 : Hid (Rd w2 r g 1 0 l ∧ Below w.heap.size w w2) := ⟨hR2, below_of_gr B1.out hG2 hr⟩; have hr2 : r < w2.heap.size := Nat.lt_of_lt_of_le hrl hG2.size; clear hR2 hG2 B1)
          | (go_at_call 129; have hg2 : g < w2.heap.size := World.block_lt_of_cell? w2 _ (R2.out.1.row 0 HL.out.1); refine (HTR.out _ r g R2.out.1 hr2 hg2).mono ?_; rintro y w3 ⟨hR3, hG3, hO3⟩; obtain ⟨ad, cp, hy, hO3'⟩ := hO3; subst hy; have R3 : Hid (Rd w3 r g tp te l ∧ Below w.heap.size w w3 ∧ w3.ownsRow w.heap.size 31 1 (.slice ad c2.length cp) c2.length (c2.map (Value.int .u64))) := ⟨hR3, below_of_gr R2.out.2 hG3 hr, row_lower' hO3' R2.out.2.size⟩; clear hR3 hG3 hO3' R2)
          | (go_at_call 130; refine (end_st _ r g _ _ l R3.out.1).mono ?_; rintro y w5 ⟨z, rfl, hz, hB5⟩; have HZ : Hid (z = 0 ↔ te = 0 ∧ tp = l.length) := hz; have R5 : Hid (Below w.heap.size w w5 ∧ w5.ownsRow w.heap.size 31 1 (.slice ad c2.length cp) c2.length (c2.map (Value.int .u64))) := ⟨R3.out.2.1.trans (hB5.mono R3.out.2.1.size), row_keep R3.out.2.2 hB5⟩; clear hz hB5 R3))
        by_cases hz0 : z = 0
        · have hD := HD.out
          rw [if_pos (HZ.out.1 hz0)] at hD
          subst hz0 hD
          clear HD HZ
          go_wp2
          go_ret
          exact ⟨⟨ad, cp, rfl, R5.out.2⟩, R5.out.1⟩
        · have hD := HD.out
          rw [if_neg (fun h => hz0 (HZ.out.2 h))] at hD
          subst hD
          have z1 : (z != 0) = true := by simp [hz0]
          have z2 : (z == 0) = false := by simp [hz0]
          clear HD HZ
          go_wp2
          go_ret
          exact ⟨rfl, R5.out.1⟩
      · have i99 : ((byteR l 0 0).1 == 99) = false := beq_eq_false_iff_ne.2 h99
        have hdec : decR l = none := by unfold decR; rw [if_neg h98, if_neg h116, if_neg h99]
        rw [hdec]
        obtain ⟨⟨bv, bp, be⟩, hB⟩ : ∃ y, y = byteR l 0 0 := ⟨_, rfl⟩
        have HB : Hid (byteR l 0 0 = (bv, bp, be)) := hB.symm
        rw [← hB] at i98 i116 i99
        simp only at i98 i116 i99
        clear hll hb h98 h116 h99 hB hdec
        go_enter Tryz.func99, Tryz.ntmps99
        go_upto_if 27 with (first
          | (go_at_call 91; refine hrd.mono ?_; clear hrd; rintro y w1 ⟨r, g, rfl, hr, hg, hR1, hG1⟩; have B1 : Hid (Below w.heap.size w w1) := ⟨hG1.os, hG1.tape, hG1.output, hG1.size, fun k hk => hG1.block k hk (by simp)⟩; have hby := byte_st w1 r g 0 0 l hR1; rw [HB.out] at hby; have hrl : r < w1.heap.size := World.block_lt_of_cell? w1 _ hR1.c0; clear hR1 hG1)
          | (go_at_call 126; refine hby.mono ?_; clear hby; rintro y w2 ⟨rfl, hR2, hG2⟩; have R2 : Hid (Rd w2 r g bp be l ∧ Below w.heap.size w w2) := ⟨hR2, below_of_gr B1.out hG2 hr⟩; have hr2 : r < w2.heap.size := Nat.lt_of_lt_of_le hrl hG2.size; clear hR2 hG2 B1)
          | (go_at_call 130; refine (end_st _ r g _ _ l R2.out.1).mono ?_; rintro y w5 ⟨z, rfl, hz, hB5⟩; have R5 : Hid (Below w.heap.size w w5) := R2.out.2.trans (hB5.mono R2.out.2.size); clear hz hB5 R2))
        by_cases hz0 : z = 0
        · subst hz0
          go_wp2
          go_ret
          exact ⟨rfl, R5.out⟩
        · have z1 : (z != 0) = true := by simp [hz0]
          have z2 : (z == 0) = false := by simp [hz0]
          go_wp2
          go_ret
          exact ⟨rfl, R5.out⟩
end Go.Proofs.YtncagdfbgpdhfaaGreat

/- Plain facts: a number has one short form; nothing of the program is named here. -/
namespace Go.Proofs.YtncagdfbgpdhfaaGreat
open Go.RowKit

/-- the number that groups make, the lowest first -/
def val : List UInt8 → Nat
  | [] => 0
  | c :: t => c.toNat % 128 + 128 * val t

/-- groups that are a short form -/
def Canon : List UInt8 → Prop
  | [] => False
  | [c] => c.toNat < 128
  | c :: d :: t => 128 ≤ c.toNat ∧ Canon (d :: t) ∧ 0 < val (d :: t)

theorem byte_low (c : UInt8) : UInt8.ofNat c.toNat = c := by simp
theorem byte_high (c : UInt8) (h : 128 ≤ c.toNat) : UInt8.ofNat (c.toNat % 128 + 128) = c := by
  have := c.toNat_lt
  rw [show c.toNat % 128 + 128 = c.toNat from by omega]
  simp

theorem shortF_val : ∀ (p : List UInt8) (f : Nat), Canon p → p.length ≤ f + 1 → shortF f (val p) = p := by
  intro p
  induction p with
  | nil => intro f h _; exact absurd h (by simp [Canon])
  | cons c t ih =>
    intro f h hl
    cases t with
    | nil =>
      simp only [Canon] at h
      have e : val [c] = c.toNat := by simp only [val]; omega
      rw [e, shortF_low f _ h, byte_low]
    | cons d t =>
      obtain ⟨h1, h2, h3⟩ := h
      simp only [List.length_cons] at hl
      obtain ⟨f', rfl⟩ : ∃ f', f = f' + 1 := ⟨f - 1, by omega⟩
      have e : val (c :: d :: t) = c.toNat % 128 + 128 * val (d :: t) := rfl
      have hm : val (c :: d :: t) % 128 = c.toNat % 128 := by rw [e]; omega
      have hd : val (c :: d :: t) / 128 = val (d :: t) := by rw [e]; omega
      rw [shortF_high f' _ (by rw [e]; omega), hm, hd, byte_high c h1, ih f' h2 (by simp only [List.length_cons]; omega)]

theorem drop_bt (l : List UInt8) (i : Nat) (h : i < l.length) : ∃ c : UInt8, l.drop i = c :: l.drop (i + 1) ∧ bt l i = (c.toNat : Int) := by
  refine ⟨l[i], List.drop_eq_getElem_cons h, ?_⟩
  simp [bt, h]

theorem numFrom_canon (l : List UInt8) : ∀ f i x k, i ≤ 9 → f + i = l.length → numFrom l f i = (x, k, 0) →
    ∃ p, l.drop i = p ++ l.drop k ∧ p.length + i = k ∧ Canon p ∧ (0 < i → 0 < val p) ∧ x = accTo l i + 128 ^ i * (val p : Int) ∧ k ≤ 10 := by
  intro f
  induction f with
  | zero => intro i x k _ _ h; simp [numFrom] at h
  | succ f ih =>
    intro i x k hi hf h
    obtain ⟨c, hd, hc⟩ := drop_bt l i (by omega)
    rw [numFrom] at h
    split at h
    · simp at h
    · rename_i hb
      have hb' : brokenB i (bt l i) = false := by simpa using hb
      have hcl := c.toNat_lt
      split at h
      · rename_i h8
        simp only [Prod.mk.injEq, and_true] at h
        obtain ⟨rfl, rfl⟩ := h
        refine ⟨[c], by rw [hd]; rfl, by simp; omega, by simp only [Canon]; omega, fun h0 => ?_, ?_, by omega⟩
        · simp only [brokenB, hc] at hb'
          simp only [val]
          have : ¬ (c.toNat : Int) = 0 := by
            intro e0
            simp [e0] at hb'
            omega
          omega
        · rw [accTo_succ, hc]
          simp only [val]
          have : (c.toNat : Int) % 128 * 128 ^ i = 128 ^ i * ((c.toNat % 128 + 128 * 0 : Nat) : Int) := by
            rw [Int.mul_comm]
            congr 1
          omega
      · rename_i h8
        have hi9 : i + 1 ≤ 9 := by
          by_cases h9 : i = 9
          · subst h9
            simp [brokenB] at hb'
            omega
          · omega
        obtain ⟨p, h1, h2, h3, h4, h5, h6⟩ := ih (i + 1) x k hi9 (by omega) h
        have hv := h4 (by omega)
        refine ⟨c :: p, by rw [hd, h1]; rfl, by simp; omega, ?_, fun _ => by simp only [val]; omega, ?_, h6⟩
        · cases p with
          | nil => exact absurd h3 (by simp [Canon])
          | cons d t => exact ⟨by omega, h3, hv⟩
        · rw [h5, accTo_succ, hc, Int.pow_succ]
          simp only [val]
          have e1 : ((c.toNat % 128 + 128 * val p : Nat) : Int) = (c.toNat : Int) % 128 + 128 * (val p : Int) := by omega
          rw [e1, Int.mul_add, Int.mul_comm ((c.toNat : Int) % 128), Int.mul_assoc]
          omega

/-- what a reading of a short form answers is what writing it gives -/
theorem num_back (l : List UInt8) (x : Int) (k : Nat) (h : num l = (x, k, 0)) : ∃ X : Nat, x = (X : Int) ∧ short X = l.take k ∧ 1 ≤ k ∧ k ≤ 10 ∧ k ≤ l.length ∧ X < 18446744073709551616 := by
  have hn := h
  unfold num at hn
  obtain ⟨p, h1, h2, h3, _, h5, h6⟩ := numFrom_canon l l.length 0 x k (by omega) (by omega) hn
  have hf := num_fits l
  have hle := num_le l
  have hpos := num_pos l (by rw [h])
  rw [h] at hf hle hpos
  simp only at hf hle hpos
  refine ⟨val p, by rw [h5]; simp [accTo], ?_, hpos, h6, hle, ?_⟩
  · have hp : l.take k = p := by
      have : l = p ++ l.drop k := by simpa using h1
      rw [this, List.take_append_of_le_length (by omega)]
      exact List.take_of_length_le (by omega)
    rw [hp]
    exact shortF_val p 9 h3 (by omega)
  · have : x = (val p : Int) := by rw [h5]; simp [accTo]
    omega

end Go.Proofs.YtncagdfbgpdhfaaGreat
