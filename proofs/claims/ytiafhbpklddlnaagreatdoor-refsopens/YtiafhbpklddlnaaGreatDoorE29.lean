import Derived.Test.YtiafhbpklddlnaaGreatDoorE13
import Derived.Test.YtiafhbpklddlnaaGreatDoorE28
/- What a reader answers, whatever its state: one contract a call. -/
namespace Go.Proofs.YtiafhbpklddlnaaGreatDoor
open Go.RowKit

attribute [local go_sem] Oper.semAt_some

def byteR (l : List UInt8) (p : Nat) (e : Int) : Int × Nat × Int := if e ≠ 0 then (0, p, e) else if p < l.length then (bt l p, p + 1, 0) else (0, p, 110)
def uintR (l : List UInt8) (p : Nat) (e : Int) : Int × Nat × Int := if e ≠ 0 then (0, p, e) else if (num (l.drop p)).2.2 = 0 then ((num (l.drop p)).1, p + (num (l.drop p)).2.1, 0) else (0, p, (num (l.drop p)).2.2)
theorem uint_st (w : World) (r g p : Nat) (e : Int) (l : List UInt8) (h : Rd w r g p e l) :
    Calls Tryz.prog 49 #[.pointer (some ⟨r, 0, none⟩)] w fun x w' => x = .returned (.int .u64 (uintR l p e).1) ∧ Rd w' r g (uintR l p e).2.1 (uintR l p e).2.2 l ∧ w.grownBy w' (some r) := by
  unfold uintR
  by_cases he : e = 0
  · subst he
    rw [if_neg (by simp)]
    by_cases hp : (num (l.drop p)).2.2 = 0
    · rw [if_pos hp]
      exact uint_yes w r g p l h hp
    · rw [if_neg hp]
      exact uint_no w r g p l h (by simp [hp])
  · rw [if_pos he]
    refine (uint_stuck w r g p e l h (by simp [he])).mono fun x w' hx => ⟨hx.1, ?_, ?_⟩
    · rw [hx.2]; exact h
    · rw [hx.2]; exact ⟨rfl, rfl, rfl, Nat.le_refl _, fun _ _ _ => rfl⟩
def wordR (l : List UInt8) (p : Nat) (e : Int) : Int × Nat × Int := if e ≠ 0 then (0, p, e) else if l.length < p + 8 then (0, p, 110) else (wideVal ((l.drop p).take 8) 8, p + 8, 0)
theorem word_st (w : World) (r g p : Nat) (e : Int) (l : List UInt8) (h : Rd w r g p e l) :
    Calls Tryz.prog 51 #[.pointer (some ⟨r, 0, none⟩)] w fun x w' => x = .returned (.int .u64 (wordR l p e).1) ∧ Rd w' r g (wordR l p e).2.1 (wordR l p e).2.2 l ∧ w.grownBy w' (some r) := by
  have hp := h.hp
  unfold wordR
  by_cases he : e = 0
  · subst he
    rw [if_neg (by simp)]
    by_cases h8 : l.length < p + 8
    · rw [if_pos h8]
      exact word_short w r g p (l.length - p) l h (by omega) (by omega)
    · rw [if_neg h8]
      exact word_yes w r g p (l.length - p) l h (by omega) (by omega)
  · rw [if_pos he]
    refine (word_stuck w r g p e l h (by simp [he])).mono fun x w' hx => ⟨hx.1, ?_, ?_⟩
    · rw [hx.2]; exact h
    · rw [hx.2]; exact ⟨rfl, rfl, rfl, Nat.le_refl _, fun _ _ _ => rfl⟩
def cutT (s : List UInt8) (most : Int) : ByteArray := ⟨((s.take (txt s most).2.1).drop (txt s most).1).toArray⟩
def textR (l : List UInt8) (p : Nat) (e most : Int) : ByteArray × Nat × Int := if e ≠ 0 then (⟨#[]⟩, p, e) else if (txt (l.drop p) most).2.2 = 0 then (cutT (l.drop p) most, p + (txt (l.drop p) most).2.1, 0) else (⟨#[]⟩, p, (txt (l.drop p) most).2.2)
theorem text_st (w : World) (r g p : Nat) (e most : Int) (l : List UInt8) (h : Rd w r g p e l) (hmost : most ≤ 9223372036854775807) :
    Calls Tryz.prog 50 #[.pointer (some ⟨r, 0, none⟩), .int .i64 most] w fun x w' => x = .returned (.string (textR l p e most).1) ∧ Rd w' r g (textR l p e most).2.1 (textR l p e most).2.2 l ∧ w.grownBy w' (some r) := by
  have hp := h.hp
  unfold textR
  by_cases he : e = 0
  · subst he
    rw [if_neg (by simp)]
    by_cases h8 : (txt (l.drop p) most).2.2 = 0
    · rw [if_pos h8]
      exact text_yes w r g p (l.length - p) most l h (by omega) hmost h8
    · rw [if_neg h8]
      exact text_no w r g p (l.length - p) most l h (by omega) hmost (by simp [h8])
  · rw [if_pos he]
    refine (text_stuck w r g p e most l h (by simp [he])).mono fun x w' hx => ⟨hx.1, ?_, ?_⟩
    · rw [hx.2]; exact h
    · rw [hx.2]; exact ⟨rfl, rfl, rfl, Nat.le_refl _, fun _ _ _ => rfl⟩
/-- the bounds of what is read -/
theorem byteR_fits (l : List UInt8) (p : Nat) (e : Int) : 0 ≤ (byteR l p e).1 ∧ (byteR l p e).1 ≤ 255 := by
  unfold byteR
  split
  · simp
  · split
    · have := (l.getD p 0).toNat_lt
      unfold bt
      simp only
      omega
    · simp
theorem uintR_fits (l : List UInt8) (p : Nat) (e : Int) : 0 ≤ (uintR l p e).1 ∧ (uintR l p e).1 ≤ 18446744073709551615 := by
  unfold uintR
  split
  · simp
  · split
    · exact num_fits _
    · simp

end Go.Proofs.YtiafhbpklddlnaaGreatDoor

/- The walk of decode: the changes of a record's payload. -/
namespace Go.Proofs.YtiafhbpklddlnaaGreatDoor
open Go.RowKit Go.Maps

attribute [local go_sem] Oper.semAt_some

/-- n changes, as they are read, behind those that are read -/
def chgsR : Nat → List UInt8 → Nat → Int → List Ch → List Ch × Nat × Int
  | 0, _, p, e, acc => (acc, p, e)
  | n + 1, l, p, e, acc =>
    if (wordR l (textR l p e 200).2.1 (textR l p e 200).2.2).2.2 = 0 then chgsR n l (wordR l (textR l p e 200).2.1 (textR l p e 200).2.2).2.1 0 (acc ++ [((textR l p e 200).1, (wordR l (textR l p e 200).2.1 (textR l p e 200).2.2).1)])
    else (acc, (wordR l (textR l p e 200).2.1 (textR l p e 200).2.2).2.1, (wordR l (textR l p e 200).2.1 (textR l p e 200).2.2).2.2)
def decP (l : List UInt8) : List Ch × Nat × Int := chgsR (uintR l 0 0).1.toNat l (uintR l 0 0).2.1 (uintR l 0 0).2.2 []
/-- the changes of a payload, if it is made as one of at least one change -/
def decRf (l : List UInt8) : Option (List Ch) := if (decP l).2.2 = 0 ∧ (decP l).2.1 = l.length ∧ (decP l).1 ≠ [] then some (decP l).1 else none

theorem end_st' (w : World) (r g p : Nat) (e : Int) (l : List UInt8) (h : Rd w r g p e l) :
    Calls Tryz.prog 53 #[.pointer (some ⟨r, 0, none⟩)] w fun x w' => ∃ z : Int, x = .returned (.int .i64 z) ∧ (z = 0 ↔ e = 0 ∧ p = l.length) ∧ Below w.heap.size w w' := by
  have hp := h.hp
  by_cases he : e = 0
  · subst he
    refine (end_ok w r g p (l.length - p) l h (by omega)).mono fun x w' hx => ?_
    obtain ⟨hx, k, rfl⟩ := hx
    refine ⟨_, hx, ?_, (Below.refl _ w).trans ⟨rfl, rfl, rfl, Nat.le_refl _, fun _ _ => rfl⟩⟩
    split
    · constructor
      · intro h; omega
      · intro h; omega
    · constructor
      · intro _; omega
      · intro _; rfl
  · refine (end_err w r e h.c1 (by simp [he])).mono fun x w' hx => ⟨e, hx.1, ?_, by rw [hx.2]; exact Below.refl _ _⟩
    constructor
    · intro h; exact absurd h he
    · intro h; exact h.1
/-- what stands while changes are read -/
structure DR (w : World) (B r g : Nat) (l : List UInt8) (p : Nat) (e : Int) (acc : List Ch) (ad : Option Addr) (n cp : Nat) (W : World) : Prop where
  rd : Rd W r g p e l
  bel : Below w.heap.size w W
  row : W.ownsRow B 38 2 (.slice ad n cp) n (chCells acc)
  len : acc.length = n
  le : n ≤ p
  low : B ≤ W.heap.size
theorem DR.next {w W W1 : World} {B r g : Nat} {l : List UInt8} {p p' : Nat} {e e' : Int} {acc : List Ch} {ad : Option Addr} {n cp : Nat} (h : DR w B r g l p e acc ad n cp W) (hw : w.heap.size ≤ r) (hr : r < B) (hR : Rd W1 r g p' e' l) (hg : W.grownBy W1 (some r)) (hp : p ≤ p') : DR w B r g l p' e' acc ad n cp W1 :=
  ⟨hR, h.bel.trans ⟨hg.os, hg.tape, hg.output, hg.size, fun k hk => hg.block k (by have := h.bel.size; omega) (fun e => by have := Option.some.inj e; omega)⟩, row_movedC h.row (fun q hq => hg.block q (row_blockC h.row q hq).2 (fun e => by have := Option.some.inj e; have := (row_blockC h.row q hq).1; omega)), h.len, Nat.le_trans h.le hp, Nat.le_trans h.low hg.size⟩
theorem DR.alloc {w W : World} {B r g : Nat} {l : List UInt8} {p : Nat} {e : Int} {acc : List Ch} {ad : Option Addr} {n cp : Nat} (h : DR w B r g l p e acc ad n cp W) (hw : w.heap.size ≤ r) (hr : r < B) (o : Obj) : DR w B r g l p e acc ad n cp (W.alloc o) := by
  have hg : W.grownBy (W.alloc o) none := ⟨rfl, rfl, rfl, by simp, fun k hk _ => Below.heap_alloc _ _ _ hk⟩
  exact h.next hw hr (h.rd.kept hg (by simp) (by simp)) (grownBy_wide hg) (Nat.le_refl _)
theorem DR.push {w W W1 : World} {B r g : Nat} {l : List UInt8} {p : Nat} {e : Int} {acc : List Ch} {ad ad' : Option Addr} {n cp cp' : Nat} {x : Ch} (h : DR w B r g l p e acc ad n cp W) (hw : w.heap.size ≤ r) (hr : r < B) (_hwB : w.heap.size ≤ B) (hgB : g < B) (hp : n + 1 ≤ p)
    (ho : W1.ownsRow B 38 2 (.slice ad' (n + 1) cp') (n + 1) (chCells acc ++ chCells [x])) (hg : W.grownBy W1 (Value.slice ad n cp).ownBlock) : DR w B r g l p e (acc ++ [x]) ad' (n + 1) cp' W1 := by
  have hob : ∀ k, (Value.slice ad n cp).ownBlock = some k → B ≤ k := fun k hk => (row_blockC h.row k hk).1
  refine ⟨h.rd.kept (row := (Value.slice ad n cp).ownBlock) hg (fun e => by have := hob r e; omega) (fun e => by have := hob g e; omega), h.bel.trans ⟨hg.os, hg.tape, hg.output, hg.size, fun k hk => hg.block k (by have := h.bel.size; omega) (fun e => by have := hob k e.symm; omega)⟩, by rw [chCells_append]; exact ho, by simp [h.len], hp, Nat.le_trans h.low hg.size⟩
theorem textR_le (l : List UInt8) (p : Nat) (e m : Int) : p ≤ (textR l p e m).2.1 := by
  unfold textR
  split
  · exact Nat.le_refl _
  · split
    · simp
    · exact Nat.le_refl _
theorem wordR_le (l : List UInt8) (p : Nat) (e : Int) : p ≤ (wordR l p e).2.1 ∧ ((wordR l p e).2.2 = 0 → p + 8 ≤ (wordR l p e).2.1) := by
  unfold wordR
  split
  · rename_i he
    exact ⟨Nat.le_refl _, fun h => absurd h he⟩
  · split
    · exact ⟨Nat.le_refl _, fun h => by simp at h⟩
    · exact ⟨by simp, fun _ => by simp⟩

set_option maxRecDepth 100000 in
set_option maxHeartbeats 4000000 in
theorem decode_any (w : World) (a : Option Addr) (c : Nat) (l : List UInt8) (hb : Bytes w a l.length l) (hl : l.length ≤ 549755813888) :
    Calls Tryz.prog 22 #[.slice a l.length c] w fun e w' => ∃ ad cp, e = .returned (.tuple #[.slice ad (decP l).1.length cp, .bool (decRf l).isSome]) ∧ w'.ownsRow w.heap.size 38 2 (.slice ad (decP l).1.length cp) (decP l).1.length (chCells (decP l).1) ∧ Below w.heap.size w w' ∧ (decP l).1.length ≤ l.length := by
  obtain ⟨i0, hi, hz0, hz1, hz2⟩ := info_parts infoRef
  have huf := uintR_fits l 0 0
  obtain ⟨RES, hRES⟩ : ∃ RES, RES = decP l := ⟨_, rfl⟩
  have hdd : decRf l = if RES.2.2 = 0 ∧ RES.2.1 = l.length ∧ RES.1 ≠ [] then some RES.1 else none := by rw [hRES]; rfl
  rw [hdd, ← hRES]
  have hrd := oread_any a l.length c l w hb (by omega)
  unfold decP at hRES
  obtain ⟨kk, hkk⟩ : ∃ kk : Nat, (uintR l 0 0).1 = (kk : Int) := ⟨(uintR l 0 0).1.toNat, by omega⟩
  have hk64 : kk < 18446744073709551616 := by omega
  have HRES : Hid (RES = chgsR kk l (uintR l 0 0).2.1 (uintR l 0 0).2.2 []) := by rw [hRES, hkk]; rfl
  have hus := fun W r g h => uint_st W r g 0 0 l h
  rw [hkk] at hus
  clear hdd hRES huf hkk
  generalize (uintR l 0 0).2.1 = p0 at *
  generalize (uintR l 0 0).2.2 = e0 at *
  go_enter Tryz.func22, Tryz.ntmps22
  go_wp2_with fail
  go_step3
  go_wp2_with (go_at_call 48; refine hrd.mono ?_; clear hrd; rintro y w1 ⟨r, g, rfl, hr, hg, hR1, hG1⟩; have hus1 := hus w1 r g hR1; have H1 : Hid (Below w.heap.size w w1 ∧ r < w1.heap.size ∧ r ≠ g) := ⟨⟨hG1.os, hG1.tape, hG1.output, hG1.size, fun k hk => hG1.block k hk (by simp)⟩, World.block_lt_of_cell? w1 _ hR1.c0, hR1.ne⟩; clear hus hG1)
  go_step3
  go_wp2_with (go_at_call 49; refine hus1.mono ?_; clear hus1; rintro y w2 ⟨rfl, hR2, hG2⟩)
  have hwB : w.heap.size ≤ w2.heap.size := Nat.le_trans H1.out.1.size hG2.size
  have hrB : r < w2.heap.size := Nat.lt_of_lt_of_le H1.out.2.1 hG2.size
  have hgB : l.length ≠ 0 → g < w2.heap.size := fun h0 => World.block_lt_of_cell? w2 _ (hR2.row 0 (by omega))
  have HI : Hid (DR w w2.heap.size r g l p0 e0 [] none 0 0 w2) := ⟨hR2, H1.out.1.trans ⟨hG2.os, hG2.tape, hG2.output, hG2.size, fun k hk => hG2.block k (by have := H1.out.1.size; omega) (fun e => by have := Option.some.inj e; omega)⟩, World.ownsRow_nil _ _ _ _, rfl, Nat.zero_le _, Nat.le_refl _⟩
  have HFIN : Hid (∀ (acc : List Ch) (pp : Nat) (ee : Int) (ad : Option Addr) (n cp : Nat) (WW W5 : World) (z : Int), RES = (acc, pp, ee) → DR w w2.heap.size r g l pp ee acc ad n cp WW → Below WW.heap.size WW W5 → (z = 0 ↔ ee = 0 ∧ pp = l.length) → ∀ bb : Bool, bb = decide (z = 0 ∧ 0 < n) → ∃ ad' cp', Ending.returned (.tuple #[.slice ad n cp, .bool bb]) = Ending.returned (.tuple #[.slice ad' RES.1.length cp', .bool (if RES.2.2 = 0 ∧ RES.2.1 = l.length ∧ RES.1 ≠ [] then some RES.1 else none).isSome]) ∧ W5.ownsRow w.heap.size 38 2 (.slice ad' RES.1.length cp') RES.1.length (chCells RES.1) ∧ Below w.heap.size w W5 ∧ RES.1.length ≤ l.length) := fun acc pp ee ad n cp WW W5 z hRA hDD hB5 hz bb hbb => by
    subst hRA
    have hln := hDD.len
    have hb2 : bb = (if ee = 0 ∧ pp = l.length ∧ acc ≠ [] then some acc else none).isSome := by
      rw [hbb]
      by_cases hc : ee = 0 ∧ pp = l.length ∧ acc ≠ []
      · rw [if_pos hc]
        have h1 : 0 < n := by rw [← hln]; exact List.length_pos_iff.2 hc.2.2
        simp [hz.2 ⟨hc.1, hc.2.1⟩, h1]
      · rw [if_neg hc]
        simp only [Option.isSome_none, decide_eq_false_iff_not]
        rintro ⟨h1, h2⟩
        have h3 := hz.1 h1
        exact hc ⟨h3.1, h3.2, fun e => by rw [e] at hln; simp at hln; omega⟩
    refine ⟨ad, cp, by rw [hb2, hln], ?_, hDD.bel.trans (hB5.mono hDD.bel.size), by have h1 := hDD.le; have h2 := hDD.rd.hp; show acc.length ≤ l.length; omega⟩
    rw [hln]
    exact row_movedC ⟨hDD.row.1, hDD.row.2.imp id (fun ⟨g', cap, cur, e1, e2, e3⟩ => ⟨g', cap, cur, e1, Nat.le_trans hwB e2, e3⟩)⟩ (fun q hq => hB5.block q (row_blockC hDD.row q hq).2)
  clear hR2 hG2 hR1
  go_loopw [5, 6] (fun v lf wr => ∃ (k pp : Nat) (ee : Int) (acc : List Ch) (ad : Option Addr) (n cp : Nat), k < 18446744073709551616 ∧ lf = .int .u64 (k : Int) ∧ v = .slice ad n cp ∧ n ≤ l.length ∧ Hid (RES = chgsR k l pp ee acc ∧ DR w w2.heap.size r g l pp ee acc ad n cp wr)) (fun _ lf _ => (intOf lf).toNat)
  case atStart => exact ⟨kk, p0, e0, [], none, 0, 0, hk64, rfl, rfl, Nat.zero_le _, HRES.out, HI.out⟩
  case round =>
    clear HRES HI
    obtain ⟨k, pp, ee, acc, ad, n, cp, hk, rfl, rfl, hnl, H⟩ := hrel
    have hen := fun W p e (h : Rd W r g p e l) => end_st' W r g p e l h
    match k, hk, H with
    | 0, hk, H =>
      have hen0 := hen wr pp ee H.out.2.rd
      clear hen
      have HR : Hid (RES = (acc, pp, ee) ∧ DR w w2.heap.size r g l pp ee acc ad n cp wr) := H.out
      clear H
      by_cases hc0 : ee = 0 ∧ pp = l.length
      · have hc : Hid (ee = 0 ∧ pp = l.length) := hc0
        clear hc0
        by_cases hn0 : 0 < n
        · have i2 : (0 : Int) < (n : Int) := by omega
          go_wp2_with first
            | (go_at_call 53; refine (hen0).mono ?_; clear hen0; rintro y W5 ⟨z, rfl, hz, hB5⟩; obtain rfl : z = 0 := hz.2 hc.out; have H5 : Hid (Below wr.heap.size wr W5) := hB5; clear hz hB5)
          rw [Exit.noGoto_ret]
          go_ret2
          exact HFIN.out acc pp ee ad n cp wr W5 0 HR.out.1 HR.out.2 H5.out ⟨fun _ => hc.out, fun _ => rfl⟩ true (by simp; omega)
        · obtain rfl : n = 0 := by omega
          go_wp2_with first
            | (go_at_call 53; refine (hen0).mono ?_; clear hen0; rintro y W5 ⟨z, rfl, hz, hB5⟩; obtain rfl : z = 0 := hz.2 hc.out; have H5 : Hid (Below wr.heap.size wr W5) := hB5; clear hz hB5)
          rw [Exit.noGoto_ret]
          go_ret2
          exact HFIN.out acc pp ee ad 0 cp wr W5 0 HR.out.1 HR.out.2 H5.out ⟨fun _ => hc.out, fun _ => rfl⟩ false (by simp)
      · have hc : Hid (¬ (ee = 0 ∧ pp = l.length)) := hc0
        clear hc0
        go_wp2_with first
          | (go_at_call 53; refine (hen0).mono ?_; clear hen0; rintro y W5 ⟨z, rfl, hz, hB5⟩; have hz1 : (z == 0) = false := beq_eq_false_iff_ne.2 (fun e => hc.out (hz.1 e)); have hz2 : Hid (z ≠ 0) := (fun e => hc.out (hz.1 e)); have hz3 : Hid (z = 0 ↔ ee = 0 ∧ pp = l.length) := hz; have H5 : Hid (Below wr.heap.size wr W5) := hB5; clear hz hB5)
        rw [Exit.noGoto_ret]
        go_ret2
        exact HFIN.out acc pp ee ad n cp wr W5 z HR.out.1 HR.out.2 H5.out hz3.out false (by simp [hz2.out])
    | k + 1, hk, H =>
      have H2 : Hid (DR w w2.heap.size r g l pp ee acc ad n cp wr) := H.out.2
      have hT := text_st wr r g pp ee 200 l H.out.2.rd (by omega)
      have HD : Hid (RES = if (wordR l (textR l pp ee 200).2.1 (textR l pp ee 200).2.2).2.2 = 0 then chgsR k l (wordR l (textR l pp ee 200).2.1 (textR l pp ee 200).2.2).2.1 0 (acc ++ [((textR l pp ee 200).1, (wordR l (textR l pp ee 200).2.1 (textR l pp ee 200).2.2).1)]) else (acc, (wordR l (textR l pp ee 200).2.1 (textR l pp ee 200).2.2).2.1, (wordR l (textR l pp ee 200).2.1 (textR l pp ee 200).2.2).2.2)) := H.out.1
      have hW := fun W h => word_st W r g (textR l pp ee 200).2.1 (textR l pp ee 200).2.2 l h
      have hle1 := textR_le l pp ee 200
      have hle23 := wordR_le l (textR l pp ee 200).2.1 (textR l pp ee 200).2.2
      clear H
      generalize textR l pp ee 200 = T at *
      obtain ⟨nm, tp, te⟩ := T
      simp only at hT HD hW hle1 hle23
      generalize wordR l tp te = X at *
      obtain ⟨id, xp, xe⟩ := X
      simp only at HD hW hle23
      obtain ⟨hle2, hle3'⟩ := hle23
      have hnp : n ≤ pp := H2.out.le
      have i5 : (0 : Int) < ((k + 1 : Nat) : Int) := by omega
      by_cases hx : xe = 0
      · subst hx
        rw [if_pos rfl] at HD
        have hle3 : Hid (n + 8 ≤ xp) := (by have := hle3' rfl; omega : n + 8 ≤ xp)
        clear hen hle3'
        go_wp2_with first
          | (go_at_call 50; refine hT.mono ?_; clear hT; rintro y w3 ⟨rfl, hR3, hG3⟩; have D3 : Hid (DR w w2.heap.size r g l tp te acc ad n cp w3) := H2.out.next hr hrB hR3 hG3 hle1; clear hR3 hG3)
          | (go_at_call 51; refine (hW w3 D3.out.rd).mono ?_; clear hW; rintro y w4 ⟨rfl, hR4, hG4⟩; have D4 : Hid (DR w w2.heap.size r g l xp 0 acc ad n cp (w4.alloc (.cells #[.string nm, .int .u64 id] 38))) := (D3.out.next hr hrB hR4 hG4 hle2).alloc hr hrB _; have c41 := D4.out.rd.c1; have D5 : Hid (DR w w2.heap.size r g l xp 0 acc ad n cp ((w4.alloc (.cells #[.string nm, .int .u64 id] 38)).alloc (.cells #[.string nm, .int .u64 id] 38))) := D4.out.alloc hr hrB _; have d0 : (w4.alloc (.cells #[.string nm, .int .u64 id] 38)).cell? ⟨w4.heap.size, 0, none⟩ = some (.string nm) := (by simp only [World.cell?, World.alloc_heap_new]; rfl); have d1 : (w4.alloc (.cells #[.string nm, .int .u64 id] 38)).cell? ⟨w4.heap.size, 1, none⟩ = some (.int .u64 id) := (by simp only [World.cell?, World.alloc_heap_new]; rfl);  clear hR4 hG4)
          | (go_at_call 52; refine (err_any _ r 0 c41).mono ?_; rintro y w5 ⟨rfl, h5⟩; have h6 := h5.symm; clear h5; subst h6)
          | (at_builtin; (refine wpList_append_own_at _ rfl _ _ 30 rfl w2.heap.size 38 i0 _ 2 24 Tryz.underlying30 hi hz0 hz1 hz2 rfl (by decide) _ n _ rfl D5.out.row ⟨w4.heap.size + 1, 0, none⟩ 1 1 (chCells [(nm, id)]) rfl rfl (by have h := cells_two_new (w4.alloc (.cells #[.string nm, .int .u64 id] 38)) (nm, id); rw [World.size_alloc] at h; exact h) (chCells_one _) (by unfold maxLen; omega) (by omega) D5.out.low ?_; intro v' w6 hown6 hgr6 _ hat6; clear hat6; obtain ⟨ad6, cp6, hv6, _⟩ := row_shapeC hown6; subst hv6; have D6 : Hid (DR w w2.heap.size r g l xp 0 (acc ++ [(nm, id)]) ad6 (n + 1) cp6 w6) := D5.out.push hr hrB hwB (hgB (by have := D5.out.rd.hp; have := hle3.out; omega)) (by have := hle3.out; omega) hown6 hgr6; clear hown6 hgr6))
        go_roundw
        case rel => exact ⟨k, xp, 0, acc ++ [(nm, id)], ad6, n + 1, cp6, by omega, by go_num, rfl, by have := D6.out.rd.hp; have := D6.out.le; omega, HD.out, D6.out⟩
        case measure => simp [intOf]
      · rw [if_neg hx] at HD
        have hx' : (xe == 0) = false := beq_eq_false_iff_ne.2 hx
        clear hle3'
        have hc : Hid (¬ (xe = 0 ∧ xp = l.length)) := fun h => hx h.1
        go_wp2_with first
          | (go_at_call 50; refine hT.mono ?_; clear hT; rintro y w3 ⟨rfl, hR3, hG3⟩; have D3 : Hid (DR w w2.heap.size r g l tp te acc ad n cp w3) := H2.out.next hr hrB hR3 hG3 hle1; clear hR3 hG3)
          | (go_at_call 51; refine (hW w3 D3.out.rd).mono ?_; clear hW; rintro y w4 ⟨rfl, hR4, hG4⟩; have D4 : Hid (DR w w2.heap.size r g l xp xe acc ad n cp (w4.alloc (.cells #[.string nm, .int .u64 id] 38))) := (D3.out.next hr hrB hR4 hG4 hle2).alloc hr hrB _; have c41 := D4.out.rd.c1;  have d0 : (w4.alloc (.cells #[.string nm, .int .u64 id] 38)).cell? ⟨w4.heap.size, 0, none⟩ = some (.string nm) := (by simp only [World.cell?, World.alloc_heap_new]; rfl); have d1 : (w4.alloc (.cells #[.string nm, .int .u64 id] 38)).cell? ⟨w4.heap.size, 1, none⟩ = some (.int .u64 id) := (by simp only [World.cell?, World.alloc_heap_new]; rfl); have hen0 := hen _ _ _ D4.out.rd; clear hen; have HR : Hid (RES = (acc, xp, xe) ∧ DR w w2.heap.size r g l xp xe acc ad n cp (w4.alloc (.cells #[.string nm, .int .u64 id] 38))) := ⟨HD.out, D4.out⟩; clear hR4 hG4)
          | (go_at_call 52; refine (err_any _ r xe c41).mono ?_; rintro y w5 ⟨rfl, h5⟩; have h6 := h5.symm; clear h5; subst h6)
          | (go_at_call 53; refine (hen0).mono ?_; clear hen0; rintro y W5 ⟨z, rfl, hz, hB5⟩; have hz1 : (z == 0) = false := beq_eq_false_iff_ne.2 (fun e => hc.out (hz.1 e)); have hz2 : Hid (z ≠ 0) := (fun e => hc.out (hz.1 e)); have hz3 : Hid (z = 0 ↔ xe = 0 ∧ xp = l.length) := hz; have H5 : Hid (Below (w4.alloc (.cells #[.string nm, .int .u64 id] 38)).heap.size (w4.alloc (.cells #[.string nm, .int .u64 id] 38)) W5) := hB5; clear hz hB5)
        rw [Exit.noGoto_ret]
        go_ret2
        exact HFIN.out acc xp xe ad n cp (w4.alloc (.cells #[.string nm, .int .u64 id] 38)) W5 z HR.out.1 HR.out.2 H5.out hz3.out false (by simp [hz2.out])
end Go.Proofs.YtiafhbpklddlnaaGreatDoor

/- What decode answers is what Open asks of it. -/
namespace Go.Proofs.YtiafhbpklddlnaaGreatDoor
open Go.RowKit Go.Maps

theorem wideVal_in (l : List UInt8) : ∀ k, 0 ≤ wideVal l k ∧ wideVal l k < (256 : Int) ^ k
  | 0 => ⟨by simp [wideVal], by simp [wideVal]⟩
  | k + 1 => by
    have ih := wideVal_in l k
    have hb : 0 ≤ bt l k ∧ bt l k ≤ 255 := by unfold bt; have := (l.getD k 0).toNat_lt; omega
    unfold wideVal
    rw [Int.pow_succ]
    omega
theorem wordR_fits' (l : List UInt8) (p : Nat) (e : Int) : 0 ≤ (wordR l p e).1 ∧ (wordR l p e).1 ≤ 18446744073709551615 := by
  unfold wordR
  split
  · simp
  · split
    · simp
    · have := wideVal_in ((l.drop p).take 8) 8
      have h : (256 : Int) ^ 8 = 18446744073709551616 := by decide
      rw [h] at this
      exact ⟨this.1, by have := this.2; simp only; omega⟩
theorem textR_size (l : List UInt8) (p : Nat) (e m : Int) : (textR l p e m).1.size ≤ l.length := by
  unfold textR
  split
  · simp [ByteArray.size]
  · split
    · simp only [cutT, ByteArray.size, List.size_toArray, List.length_drop, List.length_take]
      omega
    · simp [ByteArray.size]
theorem wordR_ok' {l : List UInt8} {p : Nat} {e : Int} (h : (wordR l p e).2.2 = 0) : (wordR l p e).2.1 = p + 8 ∧ p + 8 ≤ l.length := by
  unfold wordR at h ⊢
  by_cases he : e ≠ 0
  · rw [if_pos he] at h; exact absurd h he
  · rw [if_neg he] at h ⊢
    by_cases hp : l.length < p + 8
    · rw [if_pos hp] at h; simp at h
    · rw [if_neg hp]; exact ⟨rfl, by omega⟩
theorem chgsR_all (l : List UInt8) (Q : Ch → Prop) (hQ : ∀ p e p' e', Q ((textR l p e 200).1, (wordR l p' e').1)) : ∀ (n p : Nat) (e : Int) (acc : List Ch), (∀ x ∈ acc, Q x) → ∀ x ∈ (chgsR n l p e acc).1, Q x
  | 0, _, _, _, h => h
  | n + 1, p, e, acc, h => by
    unfold chgsR
    split
    · refine chgsR_all l Q hQ n _ _ _ ?_
      intro x hx
      rcases List.mem_append.1 hx with hx | hx
      · exact h x hx
      · simp at hx; subst hx; exact hQ _ _ _ _
    · exact h
theorem decRf_some {l : List UInt8} {L : List Ch} (h : decRf l = some L) : (decP l).1 = L := by
  unfold decRf at h
  split at h
  · exact Option.some.inj h
  · cases h
/-- decode answers what Open asks of it -/
theorem decOk (rs : List (List UInt8)) (h : ∀ p ∈ rs, p.length ≤ 549755813888) : DecOk decRf rs := by
  intro p hp W a c hb
  have hpl := h p hp
  refine (decode_any W a c p hb hpl).mono ?_
  rintro e w' ⟨ad, cp, rfl, ho, hB, hlen⟩
  have hall : ∀ x ∈ (decP p).1, x.1.size ≤ maxLen ∧ 0 ≤ x.2 ∧ x.2 ≤ 18446744073709551615 :=
    chgsR_all p (fun x => x.1.size ≤ maxLen ∧ 0 ≤ x.2 ∧ x.2 ≤ 18446744073709551615) (fun q e q' e' => ⟨by have := textR_size p q e 200; simp only; unfold maxLen; omega, wordR_fits' p q' e'⟩) _ _ _ [] (by simp)
  refine ⟨ad, cp, (decP p).1, rfl, fun l hl => decRf_some hl, own_chs ho rfl, fun x hx => ?_, fun k x hx => (hall x (List.mem_of_getElem? hx)).1, fun x hx => (hall x hx).2, hlen, hB⟩
  subst hx
  rcases ho.2 with ⟨e, _⟩ | ⟨g', cap, cur, e, hb', _⟩
  · cases e
  · cases e
    exact hb'
end Go.Proofs.YtiafhbpklddlnaaGreatDoor
