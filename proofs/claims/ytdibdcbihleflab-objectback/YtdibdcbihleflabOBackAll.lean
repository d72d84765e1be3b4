/- Proved here: for all bytes, entries and commits the law ObjectBack (an object is read as it was written, by its type and its fields) returns true, and its arguments read as before. No condition. -/
import Derived.Test.YtdibdcbihleflabText
import Derived.Test.YtdibdcbihleflabOTree5
import Derived.Test.YtdibdcbihleflabOCommit4
import Derived.Deep.RegionLaw
import Derived.Test.YtdibdcbihleflabOOdd
import Derived.Deep.Cut
import Derived.Test.YtdibdcbihleflabODecB
import Derived.Test.YtdibdcbihleflabOInj
import Derived.Test.YtdibdcbihleflabOSameTwo
import Derived.Test.YtdibdcbihleflabOArg3
import Derived.Test.YtdibdcbihleflabOArg4
import Derived.Test.YtdibdcbihleflabOArg5
import Derived.Test.YtdibdcbihleflabRows
/- What a reader answers, whatever its state: one contract a call. -/
namespace Go.Proofs.Ytdibdcbihleflab
open Go.RowKit

attribute [local go_sem] Oper.semAt_some

def byteR (l : List UInt8) (p : Nat) (e : Int) : Int × Nat × Int := if e ≠ 0 then (0, p, e) else if p < l.length then (bt l p, p + 1, 0) else (0, p, 110)
theorem byte_st (w : World) (r g p : Nat) (e : Int) (l : List UInt8) (h : Rd w r g p e l) :
    Calls Try.prog 33 #[.pointer (some ⟨r, 0, none⟩)] w fun x w' => x = .returned (.int .u8 (byteR l p e).1) ∧ Rd w' r g (byteR l p e).2.1 (byteR l p e).2.2 l ∧ w.grownBy w' (some r) := by
  unfold byteR
  by_cases he : e = 0
  · subst he
    rw [if_neg (by simp)]
    by_cases hp : p < l.length
    · rw [if_pos hp]
      exact byte_yes w r g p l h hp
    · rw [if_neg hp]
      exact byte_short w r g p l h (by have := h.hp; omega)
  · rw [if_pos he]
    refine (byte_stuck w r g p e l h (by simp [he])).mono fun x w' hx => ⟨hx.1, ?_, ?_⟩
    · rw [hx.2]; exact h
    · rw [hx.2]; exact ⟨rfl, rfl, rfl, Nat.le_refl _, fun _ _ _ => rfl⟩
def uintR (l : List UInt8) (p : Nat) (e : Int) : Int × Nat × Int := if e ≠ 0 then (0, p, e) else if (num (l.drop p)).2.2 = 0 then ((num (l.drop p)).1, p + (num (l.drop p)).2.1, 0) else (0, p, (num (l.drop p)).2.2)
theorem uint_st (w : World) (r g p : Nat) (e : Int) (l : List UInt8) (h : Rd w r g p e l) :
    Calls Try.prog 49 #[.pointer (some ⟨r, 0, none⟩)] w fun x w' => x = .returned (.int .u64 (uintR l p e).1) ∧ Rd w' r g (uintR l p e).2.1 (uintR l p e).2.2 l ∧ w.grownBy w' (some r) := by
  unfold uintR
  by_cases he : e = 0
  · subst he
    rw [if_neg (by simp)]
    by_cases hp : (num (l.drop p)).2.2 = 0
    · rw [if_pos hp]
      exact uint_yes w r g p l h hp
    · rw [if_neg hp]
      exact uint_no w r g p l h (by simp [hp])
  · rw [if_pos he]
    refine (uint_stuck w r g p e l h (by simp [he])).mono fun x w' hx => ⟨hx.1, ?_, ?_⟩
    · rw [hx.2]; exact h
    · rw [hx.2]; exact ⟨rfl, rfl, rfl, Nat.le_refl _, fun _ _ _ => rfl⟩
def wordR (l : List UInt8) (p : Nat) (e : Int) : Int × Nat × Int := if e ≠ 0 then (0, p, e) else if l.length < p + 8 then (0, p, 110) else (wideVal ((l.drop p).take 8) 8, p + 8, 0)
theorem word_st (w : World) (r g p : Nat) (e : Int) (l : List UInt8) (h : Rd w r g p e l) :
    Calls Try.prog 51 #[.pointer (some ⟨r, 0, none⟩)] w fun x w' => x = .returned (.int .u64 (wordR l p e).1) ∧ Rd w' r g (wordR l p e).2.1 (wordR l p e).2.2 l ∧ w.grownBy w' (some r) := by
  have hp := h.hp
  unfold wordR
  by_cases he : e = 0
  · subst he
    rw [if_neg (by simp)]
    by_cases h8 : l.length < p + 8
    · rw [if_pos h8]
      exact word_short w r g p (l.length - p) l h (by omega) (by omega)
    · rw [if_neg h8]
      exact word_yes w r g p (l.length - p) l h (by omega) (by omega)
  · rw [if_pos he]
    refine (word_stuck w r g p e l h (by simp [he])).mono fun x w' hx => ⟨hx.1, ?_, ?_⟩
    · rw [hx.2]; exact h
    · rw [hx.2]; exact ⟨rfl, rfl, rfl, Nat.le_refl _, fun _ _ _ => rfl⟩
def cutT (s : List UInt8) (most : Int) : ByteArray := ⟨((s.take (txt s most).2.1).drop (txt s most).1).toArray⟩
def textR (l : List UInt8) (p : Nat) (e most : Int) : ByteArray × Nat × Int := if e ≠ 0 then (⟨#[]⟩, p, e) else if (txt (l.drop p) most).2.2 = 0 then (cutT (l.drop p) most, p + (txt (l.drop p) most).2.1, 0) else (⟨#[]⟩, p, (txt (l.drop p) most).2.2)
theorem text_st (w : World) (r g p : Nat) (e most : Int) (l : List UInt8) (h : Rd w r g p e l) (hmost : most ≤ 9223372036854775807) :
    Calls Try.prog 53 #[.pointer (some ⟨r, 0, none⟩), .int .i64 most] w fun x w' => x = .returned (.string (textR l p e most).1) ∧ Rd w' r g (textR l p e most).2.1 (textR l p e most).2.2 l ∧ w.grownBy w' (some r) := by
  have hp := h.hp
  unfold textR
  by_cases he : e = 0
  · subst he
    rw [if_neg (by simp)]
    by_cases h8 : (txt (l.drop p) most).2.2 = 0
    · rw [if_pos h8]
      exact text_yes w r g p (l.length - p) most l h (by omega) hmost h8
    · rw [if_neg h8]
      exact text_no w r g p (l.length - p) most l h (by omega) hmost (by simp [h8])
  · rw [if_pos he]
    refine (text_stuck w r g p e most l h (by simp [he])).mono fun x w' hx => ⟨hx.1, ?_, ?_⟩
    · rw [hx.2]; exact h
    · rw [hx.2]; exact ⟨rfl, rfl, rfl, Nat.le_refl _, fun _ _ _ => rfl⟩
/-- the bounds of what is read -/
theorem byteR_fits (l : List UInt8) (p : Nat) (e : Int) : 0 ≤ (byteR l p e).1 ∧ (byteR l p e).1 ≤ 255 := by
  unfold byteR
  split
  · simp
  · split
    · have := (l.getD p 0).toNat_lt
      unfold bt
      simp only
      omega
    · simp
theorem uintR_fits (l : List UInt8) (p : Nat) (e : Int) : 0 ≤ (uintR l p e).1 ∧ (uintR l p e).1 ≤ 18446744073709551615 := by
  unfold uintR
  split
  · simp
  · split
    · exact num_fits _
    · simp

/-- one entry, as it is read -/
def entR (l : List UInt8) (p : Nat) (e : Int) : Option Ent × Nat × Int :=
  let t := textR l p e 32
  let b := byteR l t.2.1 t.2.2
  let x := wordR l b.2.1 b.2.2
  (if x.2.2 ≠ 0 ∨ 1 < b.1 then none else some (t.1, b.1 == 1, x.1), x.2.1, x.2.2)
def entV : Option Ent → Value
  | none => .agg #[.string ⟨#[]⟩, .bool false, .int .u64 0]
  | some x => .agg #[.string x.1, .bool x.2.1, .int .u64 x.2.2]
theorem Box3.all {W : World} {g : Nat} {v0 v1 v2 : Value} (h : Box3 W g v0 v1 v2) (u0 u1 u2 : Value) : Box3 (((W.setCell ⟨g, 0, none⟩ u0).setCell ⟨g, 1, none⟩ u1).setCell ⟨g, 2, none⟩ u2) g u0 u1 u2 := by
  have h' : W.heap[g]? = _ := h
  have hl := h.lt
  unfold Box3
  simp [World.setCell, Array.getElem?_modify, h']
theorem Box3.frozen {W : World} {g : Nat} {u0 u1 u2 : Value} (h : Box3 W g u0 u1 u2) : W.frozen? ⟨g, 0, none⟩ = false ∧ W.frozen? ⟨g, 1, none⟩ = false ∧ W.frozen? ⟨g, 2, none⟩ = false := by
  unfold Box3 at h
  simp [World.frozen?, h]
theorem Box3.grown {W W' : World} {g r : Nat} {u0 u1 u2 : Value} (h : Box3 W g u0 u1 u2) (hg : W.grownBy W' (some r)) (hr : g ≠ r) : Box3 W' g u0 u1 u2 := (hg.block g h.lt (fun e => hr (Option.some.inj e))).trans h

set_option maxRecDepth 20000 in
set_option maxHeartbeats 2000000 in
theorem readEntry_any (w : World) (r g p : Nat) (e : Int) (l : List UInt8) (h : Rd w r g p e l) (hr : r < w.heap.size) (hg : g < w.heap.size) :
    Calls Try.prog 50 #[.pointer (some ⟨r, 0, none⟩)] w fun x w' => x = .returned (.tuple #[entV (entR l p e).1, .bool (entR l p e).1.isSome]) ∧ Rd w' r g (entR l p e).2.1 (entR l p e).2.2 l ∧ w.grownBy w' (some r) := by
  have hg0 : w.grownBy (w.alloc (.cells #[.string ⟨#[]⟩, .bool false, .int .u64 0] 56)) (some r) := ⟨rfl, rfl, rfl, by simp, fun k hk _ => Below.heap_alloc _ _ _ hk⟩
  have h0 : Rd (w.alloc (.cells #[.string ⟨#[]⟩, .bool false, .int .u64 0] 56)) r g p e l := h.kept (row := none) ⟨rfl, rfl, rfl, by simp, fun k hk _ => Below.heap_alloc _ _ _ hk⟩ (by simp) (by simp)
  have b0 := Box3.new w (.string ⟨#[]⟩) (.bool false) (.int .u64 0)
  have hne : w.heap.size ≠ r := by omega
  have hbf := byteR_fits l (textR l p e 32).2.1 (textR l p e 32).2.2
  obtain ⟨t, ht⟩ : ∃ t, t = textR l p e 32 := ⟨_, rfl⟩
  rw [← ht] at hbf
  obtain ⟨b, hb⟩ : ∃ b, b = byteR l t.2.1 t.2.2 := ⟨_, rfl⟩
  rw [← hb] at hbf
  obtain ⟨x, hx⟩ : ∃ x, x = wordR l b.2.1 b.2.2 := ⟨_, rfl⟩
  have hE : entR l p e = (if x.2.2 ≠ 0 ∨ 1 < b.1 then none else some (t.1, b.1 == 1, x.1), x.2.1, x.2.2) := by rw [hx, hb, ht]; rfl
  rw [hE]
  have HT : Hid (∀ W, Rd W r g p e l → Calls Try.prog 53 #[.pointer (some ⟨r, 0, none⟩), .int .i64 32] W fun y w' => y = .returned (.string t.1) ∧ Rd w' r g t.2.1 t.2.2 l ∧ W.grownBy w' (some r)) := fun W hW => by rw [ht]; exact text_st W r g p e 32 l hW (by omega)
  have HBy : Hid (∀ W, Rd W r g t.2.1 t.2.2 l → Calls Try.prog 33 #[.pointer (some ⟨r, 0, none⟩)] W fun y w' => y = .returned (.int .u8 b.1) ∧ Rd w' r g b.2.1 b.2.2 l ∧ W.grownBy w' (some r)) := fun W hW => by rw [hb]; exact byte_st W r g _ _ l hW
  have HW : Hid (∀ W, Rd W r g b.2.1 b.2.2 l → Calls Try.prog 51 #[.pointer (some ⟨r, 0, none⟩)] W fun y w' => y = .returned (.int .u64 x.1) ∧ Rd w' r g x.2.1 x.2.2 l ∧ W.grownBy w' (some r)) := fun W hW => by rw [hx]; exact word_st W r g _ _ l hW
  clear ht hb hx hE
  obtain ⟨t1, tp, te⟩ := t
  obtain ⟨bv, bp, be⟩ := b
  obtain ⟨xv, xp, xe⟩ := x
  simp only at HT HBy HW hbf ⊢
  have key : ∀ ok : Bool, ok = (!(decide (xe ≠ 0 ∨ 1 < bv))) → Calls Try.prog 50 #[.pointer (some ⟨r, 0, none⟩)] w fun x w' => x = .returned (.tuple #[if ok = true then .agg #[.string t1, .bool (bv == 1), .int .u64 xv] else .agg #[.string ⟨#[]⟩, .bool false, .int .u64 0], .bool ok]) ∧ Rd w' r g xp xe l ∧ w.grownBy w' (some r) := by
    intro ok hok
    have H0 : Hid (Rd (w.alloc (.cells #[.string ⟨#[]⟩, .bool false, .int .u64 0] 56)) r g p e l) := h0
    have HG0 : Hid (w.grownBy (w.alloc (.cells #[.string ⟨#[]⟩, .bool false, .int .u64 0] 56)) (some r)) := hg0
    have HK : Hid (∀ W, Rd W r g xp xe l → w.grownBy W (some r) → ∀ u0 u1 u2, Rd (((W.setCell ⟨w.heap.size, 0, none⟩ u0).setCell ⟨w.heap.size, 1, none⟩ u1).setCell ⟨w.heap.size, 2, none⟩ u2) r g xp xe l ∧ w.grownBy (((W.setCell ⟨w.heap.size, 0, none⟩ u0).setCell ⟨w.heap.size, 1, none⟩ u1).setCell ⟨w.heap.size, 2, none⟩ u2) (some r)) := fun W hR hG u0 u1 u2 => by
      have s1 : W.grownBy (((W.setCell ⟨w.heap.size, 0, none⟩ u0).setCell ⟨w.heap.size, 1, none⟩ u1).setCell ⟨w.heap.size, 2, none⟩ u2) (some w.heap.size) := grownBy_trans (grownBy_trans (grownBy_setCell _ _ _ _) (grownBy_setCell _ _ _ _)) (grownBy_setCell _ _ _ _)
      refine ⟨hR.kept s1 (by simp; omega) (by simp; omega), ⟨s1.os.trans hG.os, s1.tape.trans hG.tape, s1.output.trans hG.output, Nat.le_trans hG.size s1.size, fun k hk hn => ?_⟩⟩
      exact (s1.block k (Nat.lt_of_lt_of_le hk hG.size) (by simp; omega)).trans (hG.block k hk hn)
    clear h0 hg0 h
    by_cases hxe : xe = 0
    · subst hxe
      by_cases hbv : 1 < bv
      · have e0 : ok = false := by rw [hok]; simp [hbv]
        subst e0
        have i1 : decide ((1 : Int) < bv) = true := decide_eq_true hbv
        clear hok
        go_enter Try.func50, Try.ntmps50
        go_wp2_with first
          | (go_at_call 53; refine (HT.out _ H0.out).mono ?_; clear HT H0; rintro y w1 ⟨rfl, hR1, hG1⟩; have R1 : Hid (Rd w1 r g tp te l) := hR1; have G1 : Hid (w.grownBy w1 (some r)) := grownBy_trans HG0.out hG1; have b1 := b0.grown hG1 hne; clear hR1 hG1)
          | (go_at_call 33; refine (HBy.out _ R1.out).mono ?_; clear HBy R1; rintro y w2 ⟨rfl, hR2, hG2⟩; have R2 : Hid (Rd w2 r g bp be l) := hR2; have G2 : Hid (w.grownBy w2 (some r)) := grownBy_trans G1.out hG2; have b2 := b1.grown hG2 hne; clear hR2 hG2)
          | (go_at_call 51; refine (HW.out _ R2.out).mono ?_; clear HW R2; rintro y w3 ⟨rfl, hR3, hG3⟩; have R3 : Hid (Rd w3 r g xp 0 l) := hR3; have G3 : Hid (w.grownBy w3 (some r)) := grownBy_trans G2.out hG3; have b3 := b2.grown hG3 hne; obtain ⟨c0, c1, c2⟩ := b3.cell; obtain ⟨f0, f1, f2⟩ := b3.frozen; have re := hR3.c1; clear hR3 hG3)
          | (go_at_call 52; refine (err_any _ r 0 re).mono ?_; rintro y w4 ⟨rfl, hw4⟩; subst hw4)
        obtain ⟨d0, d1, d2⟩ := (b3.all (.string ⟨#[]⟩) (.bool false) (.int .u64 0)).cell
        obtain ⟨hRR, hGG⟩ := HK.out _ R3.out G3.out (.string ⟨#[]⟩) (.bool false) (.int .u64 0)
        refine bodyPost_ret (v := .tuple #[.agg #[.string ⟨#[]⟩, .bool false, .int .u64 0], .bool false]) (by simp [results, Try.results50, go_sem, d0, d1, d2]) rfl ⟨rfl, hRR, hGG⟩
      · have e0 : ok = true := by rw [hok]; simp [hbv]
        subst e0
        have i1 : decide ((1 : Int) < bv) = false := decide_eq_false hbv
        clear hok
        go_enter Try.func50, Try.ntmps50
        go_wp2_with first
          | (go_at_call 53; refine (HT.out _ H0.out).mono ?_; clear HT H0; rintro y w1 ⟨rfl, hR1, hG1⟩; have R1 : Hid (Rd w1 r g tp te l) := hR1; have G1 : Hid (w.grownBy w1 (some r)) := grownBy_trans HG0.out hG1; have b1 := b0.grown hG1 hne; clear hR1 hG1)
          | (go_at_call 33; refine (HBy.out _ R1.out).mono ?_; clear HBy R1; rintro y w2 ⟨rfl, hR2, hG2⟩; have R2 : Hid (Rd w2 r g bp be l) := hR2; have G2 : Hid (w.grownBy w2 (some r)) := grownBy_trans G1.out hG2; have b2 := b1.grown hG2 hne; clear hR2 hG2)
          | (go_at_call 51; refine (HW.out _ R2.out).mono ?_; clear HW R2; rintro y w3 ⟨rfl, hR3, hG3⟩; have R3 : Hid (Rd w3 r g xp 0 l) := hR3; have G3 : Hid (w.grownBy w3 (some r)) := grownBy_trans G2.out hG3; have b3 := b2.grown hG3 hne; obtain ⟨c0, c1, c2⟩ := b3.cell; obtain ⟨f0, f1, f2⟩ := b3.frozen; have re := hR3.c1; clear hR3 hG3)
          | (go_at_call 52; refine (err_any _ r 0 re).mono ?_; rintro y w4 ⟨rfl, hw4⟩; subst hw4)
        obtain ⟨d0, d1, d2⟩ := (b3.all (.string t1) (.bool (bv == 1)) (.int .u64 xv)).cell
        obtain ⟨hRR, hGG⟩ := HK.out _ R3.out G3.out (.string t1) (.bool (bv == 1)) (.int .u64 xv)
        refine bodyPost_ret (v := .tuple #[.agg #[.string t1, .bool (bv == 1), .int .u64 xv], .bool true]) (by simp [results, Try.results50, go_sem, d0, d1, d2]) rfl ⟨rfl, hRR, hGG⟩
    · have e0 : ok = false := by rw [hok]; simp [hxe]
      subst e0
      have i1 : (xe != 0) = true := by simp [hxe]
      have i2 : (xe == 0) = false := by simp [hxe]
      clear hok
      go_enter Try.func50, Try.ntmps50
      go_wp2_with first
        | (go_at_call 53; refine (HT.out _ H0.out).mono ?_; clear HT H0; rintro y w1 ⟨rfl, hR1, hG1⟩; have R1 : Hid (Rd w1 r g tp te l) := hR1; have G1 : Hid (w.grownBy w1 (some r)) := grownBy_trans HG0.out hG1; have b1 := b0.grown hG1 hne; clear hR1 hG1)
        | (go_at_call 33; refine (HBy.out _ R1.out).mono ?_; clear HBy R1; rintro y w2 ⟨rfl, hR2, hG2⟩; have R2 : Hid (Rd w2 r g bp be l) := hR2; have G2 : Hid (w.grownBy w2 (some r)) := grownBy_trans G1.out hG2; have b2 := b1.grown hG2 hne; clear hR2 hG2)
        | (go_at_call 51; refine (HW.out _ R2.out).mono ?_; clear HW R2; rintro y w3 ⟨rfl, hR3, hG3⟩; have R3 : Hid (Rd w3 r g xp xe l) := hR3; have G3 : Hid (w.grownBy w3 (some r)) := grownBy_trans G2.out hG3; have b3 := b2.grown hG3 hne; obtain ⟨c0, c1, c2⟩ := b3.cell; obtain ⟨f0, f1, f2⟩ := b3.frozen; have re := hR3.c1; clear hR3 hG3)
        | (go_at_call 52; refine (err_any _ r xe re).mono ?_; rintro y w4 ⟨rfl, hw4⟩; subst hw4)
      obtain ⟨d0, d1, d2⟩ := (b3.all (.string ⟨#[]⟩) (.bool false) (.int .u64 0)).cell
      obtain ⟨hRR, hGG⟩ := HK.out _ R3.out G3.out (.string ⟨#[]⟩) (.bool false) (.int .u64 0)
      refine bodyPost_ret (v := .tuple #[.agg #[.string ⟨#[]⟩, .bool false, .int .u64 0], .bool false]) (by simp [results, Try.results50, go_sem, d0, d1, d2]) rfl ⟨rfl, hRR, hGG⟩
  refine (key _ rfl).mono fun y w' hy => ⟨?_, hy.2⟩
  rw [hy.1]
  by_cases hq : xe ≠ 0 ∨ 1 < bv
  · rw [if_pos hq, decide_eq_true hq]; rfl
  · rw [if_neg hq, decide_eq_false hq]; rfl
end Go.Proofs.Ytdibdcbihleflab

/- A tree, as it is read. -/
namespace Go.Proofs.Ytdibdcbihleflab
open Go.RowKit

attribute [local go_sem] Oper.semAt_some

theorem byteR_ok {l : List UInt8} {p : Nat} {e : Int} (h : (byteR l p e).2.2 = 0) : e = 0 ∧ (byteR l p e).2.1 = p + 1 ∧ p < l.length := by
  unfold byteR at h ⊢
  by_cases he : e ≠ 0
  · rw [if_pos he] at h; exact absurd h he
  · rw [if_neg he] at h ⊢
    by_cases hp : p < l.length
    · rw [if_pos hp]; exact ⟨by omega, rfl, hp⟩
    · rw [if_neg hp] at h; simp at h
theorem wordR_ok {l : List UInt8} {p : Nat} {e : Int} (h : (wordR l p e).2.2 = 0) : e = 0 ∧ (wordR l p e).2.1 = p + 8 ∧ p + 8 ≤ l.length := by
  unfold wordR at h ⊢
  by_cases he : e ≠ 0
  · rw [if_pos he] at h; exact absurd h he
  · rw [if_neg he] at h ⊢
    by_cases hp : l.length < p + 8
    · rw [if_pos hp] at h; simp at h
    · rw [if_neg hp]; exact ⟨by omega, rfl, by omega⟩
theorem textR_ok {l : List UInt8} {p : Nat} {e m : Int} (h : (textR l p e m).2.2 = 0) : e = 0 ∧ p ≤ (textR l p e m).2.1 := by
  unfold textR at h ⊢
  by_cases he : e ≠ 0
  · rw [if_pos he] at h; exact absurd h he
  · rw [if_neg he] at h ⊢
    by_cases hp : (txt (l.drop p) m).2.2 = 0
    · rw [if_pos hp]; exact ⟨by omega, by simp⟩
    · rw [if_neg hp] at h; exact absurd h hp
theorem entR_some {l : List UInt8} {p : Nat} {e : Int} {x : Ent} (h : (entR l p e).1 = some x) : e = 0 ∧ p + 9 ≤ (entR l p e).2.1 ∧ (entR l p e).2.2 = 0 := by
  unfold entR at h ⊢
  simp only at h ⊢
  by_cases hq : (wordR l (byteR l (textR l p e 32).2.1 (textR l p e 32).2.2).2.1 (byteR l (textR l p e 32).2.1 (textR l p e 32).2.2).2.2).2.2 ≠ 0 ∨ 1 < (byteR l (textR l p e 32).2.1 (textR l p e 32).2.2).1
  · rw [if_pos hq] at h; cases h
  · have h1 : (wordR l (byteR l (textR l p e 32).2.1 (textR l p e 32).2.2).2.1 (byteR l (textR l p e 32).2.1 (textR l p e 32).2.2).2.2).2.2 = 0 := by
      by_cases h1 : (wordR l (byteR l (textR l p e 32).2.1 (textR l p e 32).2.2).2.1 (byteR l (textR l p e 32).2.1 (textR l p e 32).2.2).2.2).2.2 = 0
      · exact h1
      · exact absurd (.inl h1) hq
    obtain ⟨a1, a2, _⟩ := wordR_ok h1
    obtain ⟨b1, b2, _⟩ := byteR_ok a1
    obtain ⟨c1, c2⟩ := textR_ok b1
    exact ⟨c1, by omega, h1⟩
/-- n entries, as they are read, behind those that are read -/
def entsR : Nat → List UInt8 → Nat → Int → List Ent → Option (List Ent) × Nat × Int
  | 0, _, p, e, acc => (some acc, p, e)
  | n + 1, l, p, e, acc => match (entR l p e).1 with
    | none => (none, (entR l p e).2.1, (entR l p e).2.2)
    | some x => entsR n l (entR l p e).2.1 (entR l p e).2.2 (acc ++ [x])
def treeR (l : List UInt8) (p : Nat) (e : Int) : Option (List Ent) × Nat × Int := entsR (uintR l p e).1.toNat l (uintR l p e).2.1 (uintR l p e).2.2 []
theorem ents_one (w : World) (x : Ent) : Ents (w.alloc (.cells #[.string x.1, .bool x.2.1, .int .u64 x.2.2] 56)) (some ⟨w.heap.size, 0, none⟩) 1 [x] := by
  refine ⟨rfl, fun _ => ⟨_, _, rfl, fun j y hy => ?_⟩⟩
  match j, hy with
  | 0, hy =>
    simp at hy; subst hy
    have := (Box3.new w (.string x.1) (.bool x.2.1) (.int .u64 x.2.2)).cell
    simp only [Nat.zero_mul, Nat.add_zero]
    exact this
theorem own_grown {W W' : World} {B r n : Nat} {t : TypeId} {z : Nat} {v : Value} {xs : List Value} (h : W.ownsRow B t z v n xs) (hg : W.grownBy W' (some r)) (hr : r < B) : W'.ownsRow B t z v n xs :=
  h.kept hg (.inr fun e => by
    rcases h.2 with ⟨rfl, _⟩ | ⟨g, cap, cur, rfl, hb, _⟩
    · cases e
    · have : g = r := Option.some.inj e
      omega)
theorem boxed_grown {W W' : World} {B r : Nat} {t : TypeId} {v : Value} (h : Boxed W B t v) (hg : W.grownBy W' (some r)) (hr : r ≠ B) : Boxed W' B t v := (hg.block B h.lt (fun e => hr (Option.some.inj e).symm)).trans h
/-- what stands while a tree is read -/
structure TR (w : World) (r g : Nat) (l : List UInt8) (p : Nat) (e : Int) (acc : List Ent) (ad : Option Addr) (n cp : Nat) (W : World) : Prop where
  rd : Rd W r g p e l
  gr : w.grownBy W (some r)
  box : Boxed W w.heap.size 33 (.slice ad n cp)
  row : W.ownsRow (w.heap.size + 1) 56 3 (.slice ad n cp) n (entCells acc)
  len : acc.length = n
  le : n ≤ p
  low : w.heap.size + 1 ≤ W.heap.size
theorem TR.next {w W W1 : World} {r g : Nat} {l : List UInt8} {p p' : Nat} {e e' : Int} {acc : List Ent} {ad : Option Addr} {n cp : Nat} (h : TR w r g l p e acc ad n cp W) (hr : r < w.heap.size) (hR : Rd W1 r g p' e' l) (hg : W.grownBy W1 (some r)) (hp : p ≤ p') : TR w r g l p' e' acc ad n cp W1 :=
  ⟨hR, grownBy_trans h.gr hg, boxed_grown h.box hg (by omega), own_grown h.row hg (by omega), h.len, Nat.le_trans h.le hp, Nat.le_trans h.low hg.size⟩
theorem TR.alloc {w W : World} {r g : Nat} {l : List UInt8} {p : Nat} {e : Int} {acc : List Ent} {ad : Option Addr} {n cp : Nat} (h : TR w r g l p e acc ad n cp W) (hr : r < w.heap.size) (o : Obj) : TR w r g l p e acc ad n cp (W.alloc o) := by
  have hg : W.grownBy (W.alloc o) none := ⟨rfl, rfl, rfl, by simp, fun k hk _ => Below.heap_alloc _ _ _ hk⟩
  exact h.next hr (h.rd.kept hg (by simp) (by simp)) (grownBy_wide hg) (Nat.le_refl _)
theorem TR.boxed {w W W1 : World} {r g : Nat} {l : List UInt8} {p : Nat} {e : Int} {acc : List Ent} {ad : Option Addr} {n cp : Nat} (h : TR w r g l p e acc ad n cp W) (hg : W.grownBy W1 (Value.slice ad n cp).ownBlock) : Boxed W1 w.heap.size 33 (.slice ad n cp) :=
  (hg.block _ h.box.lt (fun e => by
    rcases h.row.2 with ⟨e', _⟩ | ⟨g', cap, cur, e', hb, _⟩
    · rw [e'] at e; cases e
    · rw [e'] at e
      have : w.heap.size = g' := Option.some.inj e
      omega)).trans h.box
theorem TR.push {w W W1 : World} {r g : Nat} {l : List UInt8} {p : Nat} {e : Int} {acc : List Ent} {ad : Option Addr} {n cp : Nat} {x : Ent} {ad' : Option Addr} {cp' : Nat} (h : TR w r g l p e acc ad n cp W) (hr : r < w.heap.size) (hgw : g < w.heap.size) (hp : n + 1 ≤ p)
    (ho : W1.ownsRow (w.heap.size + 1) 56 3 (.slice ad' (n + 1) cp') (n + 1) (entCells (acc ++ [x]))) (hg : W.grownBy W1 (Value.slice ad n cp).ownBlock) :
    TR w r g l p e (acc ++ [x]) ad' (n + 1) cp' (W1.setCell ⟨w.heap.size, 0, none⟩ (.slice ad' (n + 1) cp')) := by
  have hob : ∀ k, (Value.slice ad n cp).ownBlock = some k → w.heap.size + 1 ≤ k := fun k hk => by
    rcases h.row.2 with ⟨e, _⟩ | ⟨g', cap, cur, e, hb, _⟩
    · rw [e] at hk; cases hk
    · rw [e] at hk; cases hk; exact hb
  have hB1 : Below (w.heap.size + 1) W W1 := ⟨hg.os, hg.tape, hg.output, hg.size, fun k hk => hg.block k (by have := h.low; omega) (fun e => by have := hob k e.symm; omega)⟩
  have hS : W1.grownBy (W1.setCell ⟨w.heap.size, 0, none⟩ (.slice ad' (n + 1) cp')) (some w.heap.size) := grownBy_setCell _ _ _ _
  have hbx : Boxed W1 w.heap.size 33 (.slice ad n cp) := (hB1.block _ (by omega)).trans h.box
  have hR1 : Rd W1 r g p e l := h.rd.kept (row := (Value.slice ad n cp).ownBlock) hg (fun e => by have := hob r e; omega) (fun e => by have := hob g e; omega)
  refine ⟨hR1.kept hS (by simp; omega) (by simp; omega), ?_, ?_, ?_, by simp [h.len], by omega, ?_⟩
  · refine ⟨hS.os.trans (hg.os.trans h.gr.os), hS.tape.trans (hg.tape.trans h.gr.tape), hS.output.trans (hg.output.trans h.gr.output), Nat.le_trans h.gr.size (Nat.le_trans hg.size hS.size), fun k hk hn => ?_⟩
    rw [hS.block k (by have := h.gr.size; have := hg.size; omega) (by simp; omega), hB1.block k (by omega)]
    exact h.gr.block k hk hn
  · have h' : W1.heap[w.heap.size]? = _ := hbx
    have hl := hbx.lt
    unfold Boxed
    simp [World.setCell, Array.getElem?_modify, h']
  · exact ho.kept hS (.inr fun e => by
      rcases ho.2 with ⟨e', _⟩ | ⟨g', cap, cur, e', hb, _⟩
      · rw [e'] at e; cases e
      · rw [e'] at e
        have : g' = w.heap.size := Option.some.inj e
        omega)
  · have := h.low; have := hg.size; have := hS.size; omega

/-- what a call that reads a tree answers -/
def TreeOut (w : World) : Option (List Ent) → Ending → World → Prop
  | none, x, _ => x = .returned .nilIface
  | some ents, x, w' => ∃ ad cp, x = .returned (trV ad ents.length cp) ∧ w'.ownsRow w.heap.size 56 3 (.slice ad ents.length cp) ents.length (entCells ents)

set_option maxRecDepth 20000 in
set_option maxHeartbeats 4000000 in
theorem readTree_any (w : World) (r g p : Nat) (e : Int) (l : List UInt8) (h : Rd w r g p e l) (hr : r < w.heap.size) (hg : g < w.heap.size) (hl : l.length ≤ 549755813888) :
    Calls Try.prog 36 #[.pointer (some ⟨r, 0, none⟩)] w fun x w' => Rd w' r g (treeR l p e).2.1 (treeR l p e).2.2 l ∧ w.grownBy w' (some r) ∧
      TreeOut w (treeR l p e).1 x w' := by
  have h0 : Rd (w.alloc (.cells #[.slice none 0 0] 33)) r g p e l := h.kept (row := none) ⟨rfl, rfl, rfl, by simp, fun k hk _ => Below.heap_alloc _ _ _ hk⟩ (by simp) (by simp)
  have hT0 : TR w r g l p e [] none 0 0 (w.alloc (.cells #[.slice none 0 0] 33)) := ⟨h0, ⟨rfl, rfl, rfl, by simp, fun k hk _ => Below.heap_alloc _ _ _ hk⟩, Boxed.new _ _ _, World.ownsRow_nil _ _ _ _, rfl, Nat.zero_le _, by simp⟩
  have T0 : Hid (TR w r g l p e [] none 0 0 (w.alloc (.cells #[.slice none 0 0] 33))) := hT0
  obtain ⟨RES, hRES⟩ : ∃ RES, RES = treeR l p e := ⟨_, rfl⟩
  rw [← hRES]
  have huf := uintR_fits l p e
  have hup : p ≤ (uintR l p e).2.1 := by
    unfold uintR
    split
    · exact Nat.le_refl _
    · split
      · simp
      · exact Nat.le_refl _
  have HU : Hid (∀ W, Rd W r g p e l → Calls Try.prog 49 #[.pointer (some ⟨r, 0, none⟩)] W fun x w' => x = .returned (.int .u64 (uintR l p e).1) ∧ Rd w' r g (uintR l p e).2.1 (uintR l p e).2.2 l ∧ W.grownBy w' (some r)) := fun W hW => uint_st W r g p e l hW
  unfold treeR at hRES
  generalize uintR l p e = U at huf hup HU hRES
  obtain ⟨u, up, ue⟩ := U
  simp only at huf hup HU hRES
  obtain ⟨c, rfl⟩ := Int.eq_ofNat_of_zero_le huf.1
  have HR : Hid (RES = entsR c l up ue []) := hRES
  have HE : Hid (∀ W q f, Rd W r g q f l → r < W.heap.size → g < W.heap.size → Calls Try.prog 50 #[.pointer (some ⟨r, 0, none⟩)] W fun x w' => x = .returned (.tuple #[entV (entR l q f).1, .bool (entR l q f).1.isSome]) ∧ Rd w' r g (entR l q f).2.1 (entR l q f).2.2 l ∧ W.grownBy w' (some r)) := fun W q f hW a b => readEntry_any W r g q f l hW a b
  clear h0 hT0 hRES h
  go_enter Try.func36, Try.ntmps36
  go_wp2_with (go_at_call 49; refine (HU.out _ T0.out.rd).mono ?_; clear HU; rintro y w1 ⟨rfl, hR1, hG1⟩; have T1 : Hid (TR w r g l up ue [] none 0 0 w1) := T0.out.next hr hR1 hG1 hup; clear T0 hR1 hG1)
  go_loopw [4] (fun i wr => ∃ (k q : Nat) (f : Int) (acc : List Ent) (ad : Option Addr) (n cp : Nat), k ≤ 18446744073709551615 ∧ i = .int .u64 (k : Int) ∧ Hid (TR w r g l q f acc ad n cp wr ∧ RES = entsR k l q f acc)) (fun i _ => (intOf i).toNat)
  case atStart => exact ⟨c, up, ue, [], none, 0, 0, by omega, rfl, T1.out, HR.out⟩
  case round =>
    clear T1 HR huf hup
    obtain ⟨k, q, f, acc, ad, n, cp, hk, rfl, H⟩ := hrel
    have hbx := H.out.1.box.cell
    have hn1 := H.out.1.le
    have hn2 := H.out.1.rd.hp
    cases k with
    | zero =>
      have HF := H.out.2
      unfold entsR at HF
      go_wp2
      go_ret
      rw [HF]
      refine ⟨H.out.1.rd, H.out.1.gr, ?_⟩
      have hlen := H.out.1.len
      subst hlen
      exact ⟨ad, cp, rfl, by
        rcases H.out.1.row with ⟨h1, h2⟩
        refine ⟨h1, ?_⟩
        rcases h2 with h2 | ⟨g', cap, cur, e', hb, h3⟩
        · exact .inl h2
        · exact .inr ⟨g', cap, cur, e', by omega, h3⟩⟩
    | succ k =>
      have i1 : (0 : Int) < ((k + 1 : Nat) : Int) := by omega
      have i2 : ((k + 1 : Nat) : Int) - 1 = (k : Int) := by omega
      have hr1 : r < wr.heap.size := Nat.lt_of_lt_of_le hr H.out.1.gr.size
      have hg1 : g < wr.heap.size := Nat.lt_of_lt_of_le hg H.out.1.gr.size
      have hcall := HE.out wr q f H.out.1.rd hr1 hg1
      have HF := H.out.2
      unfold entsR at HF
      cases hx : (entR l q f).1 with
      | none =>
        rw [hx] at HF hcall
        simp only [entV, Option.isSome_none] at hcall
        have HFF : Hid (RES = (none, (entR l q f).2.1, (entR l q f).2.2)) := HF
        have HT : Hid (TR w r g l q f acc ad n cp wr) := H.out.1
        generalize (entR l q f).2.1 = q' at *
        generalize (entR l q f).2.2 = f' at *
        clear hx HE H HF
        go_wp2_with (go_at_call 50; refine hcall.mono ?_; clear hcall; rintro y w2 ⟨rfl, hR2, hG2⟩; have R2 : Hid (∀ o, Rd (w2.alloc o) r g q' f' l ∧ w.grownBy (w2.alloc o) (some r)) := fun o => ⟨hR2.kept (row := none) ⟨rfl, rfl, rfl, by simp, fun k hk _ => Below.heap_alloc _ _ _ hk⟩ (by simp) (by simp), grownBy_trans (grownBy_trans HT.out.gr hG2) ⟨rfl, rfl, rfl, by simp, fun k hk _ => Below.heap_alloc _ _ _ hk⟩⟩; clear hR2 hG2)
        go_ret
        rw [HFF.out]
        exact ⟨(R2.out _).1, (R2.out _).2, rfl⟩
      | some x =>
        obtain ⟨_, hx2, hx3⟩ := entR_some hx
        rw [hx] at HF hcall
        simp only [entV, Option.isSome_some] at hcall
        simp only at HF
        have HT : Hid (TR w r g l q f acc ad n cp wr) := H.out.1
        have HFF : Hid (RES = entsR k l (entR l q f).2.1 (entR l q f).2.2 (acc ++ [x])) := HF
        generalize (entR l q f).2.1 = q' at *
        generalize (entR l q f).2.2 = f' at *
        obtain ⟨nm, fo, id⟩ := x
        simp only at hcall
        clear hx HE H HF
        go_wp2_with first
          | (go_at_call 50; refine hcall.mono ?_; clear hcall; rintro y w2 ⟨rfl, hR2, hG2⟩; have T2 : Hid (TR w r g l q' f' acc ad n cp (w2.alloc (.cells #[.string nm, .bool fo, .int .u64 id] 56))) := (HT.out.next hr hR2 hG2 (by omega)).alloc hr _; have T3 : Hid (TR w r g l q' f' acc ad n cp ((w2.alloc (.cells #[.string nm, .bool fo, .int .u64 id] 56)).alloc (.cells #[.string nm, .bool fo, .int .u64 id] 56))) := T2.out.alloc hr _; have c2 := T2.out.box.cell; have E3 : Hid (Ents ((w2.alloc (.cells #[.string nm, .bool fo, .int .u64 id] 56)).alloc (.cells #[.string nm, .bool fo, .int .u64 id] 56)) (some ⟨w2.heap.size + 1, 0, none⟩) 1 [(nm, fo, id)]) := (by have := ents_one (w2.alloc (.cells #[.string nm, .bool fo, .int .u64 id] 56)) (nm, fo, id); rw [World.size_alloc] at this; exact this); clear HT hR2 hG2 hbx T2)
          | (at_builtin; refine wpList_app3 _ (w.heap.size + 1) T3.out.low rfl _ _ rfl (.slice ad n cp) n acc rfl T3.out.row (some ⟨w2.heap.size + 1, 0, none⟩) 1 1 [(nm, fo, id)] rfl E3.out (fun h => by cases h) (by omega) ?_; intro v4 w4 ho4 hg4; obtain ⟨ad4, c4, hv4, _⟩ := row_shape3 ho4; subst hv4; have bx4 := T3.out.boxed hg4; have cb4 := bx4.cell; have fb4 := bx4.frozen; have T4 : Hid (TR w r g l q' f' (acc ++ [(nm, fo, id)]) ad4 (n + 1) c4 (w4.setCell ⟨w.heap.size, 0, none⟩ (.slice ad4 (n + 1) c4))) := T3.out.push hr hg (by omega) ho4 hg4; clear T3 E3 ho4 hg4 bx4 c2)
        go_roundw
        case rel => exact ⟨k, q', f', acc ++ [(nm, fo, id)], ad4, n + 1, c4, by omega, by simp, T4.out, HFF.out⟩
        case measure => simp [intOf]
end Go.Proofs.Ytdibdcbihleflab

/- A commit, as it is read. -/
namespace Go.Proofs.Ytdibdcbihleflab
open Go.RowKit

attribute [local go_sem] Oper.semAt_some

theorem step_word {ops : Array Oper} {o : Oper} {a : Act} {K : Act → World → Prop} {Q : Exit → Act → World → Prop} {E : Prop} (w : World) (r g p : Nat) (e : Int) (l : List UInt8) (h : Rd w r g p e l) (hgd : o.guard = none) (x : Nat)
    (ho : o.op = .call { callee := .value (.func 51), args := #[.tmp x], argTypes := #[73] }) (hx : a.tmps[x]?.getD undef = .pointer (some ⟨r, 0, none⟩))
    (hK : ∀ w', Rd w' r g (wordR l p e).2.1 (wordR l p e).2.2 l → w.grownBy w' (some r) → K (a.put o.dst (.int .u64 (wordR l p e).1)) w') :
    if Region.wanted o (yielded ops a.tmps) = true then Oper.wp Try.prog o a w K Q else E := by
  have hw : Region.wanted o (yielded ops a.tmps) = true := by simp [Region.wanted, hgd]
  rw [if_pos hw]
  have hc := word_st w r g p e l h
  generalize wordR l p e = X at hc hK
  unfold Oper.wp execOp
  simp [ho, resolve, invoke, go_sem, hx]
  refine hc.mono ?_
  rintro y w' ⟨rfl, hR, hG⟩
  have := hK w' hR hG
  simpa [go_sem] using this
theorem wp_appI' (w : World) (B : Nat) (hB : B ≤ w.heap.size) {o : Oper} {a : Act} {K : Act → World → Prop} {Q : Exit → Act → World → Prop} (s x : Operand)
    (ho : o.op = .call { callee := .builtin .append, args := #[s, x], argTypes := #[26, 26] })
    (v : Value) (n : Nat) (k : List Int) (hs : a.eval s = v) (hown : w.ownsRow B 25 1 v n (k.map (Value.int .u64))) (q : Addr) (m c : Nat) (l : List Int) (hx : a.eval x = .slice (some q) m c) (hb : Ids w (some q) m l) (hm : n + m ≤ 1099511627776)
    (h : ∀ v' w', w'.ownsRow B 25 1 v' (n + m) ((k ++ l).map (Value.int .u64)) → w.grownBy w' v.ownBlock → K (a.put o.dst v') w') : o.wp Try.prog a w K Q := by
  obtain ⟨i0, hi, hz0, hz1, hz2⟩ := info_parts infoId
  obtain ⟨v', w', hr, h1, h2, _, _⟩ := run_append_own_at (P := Try.prog) w B 26 o.type 25 i0 _ 1 8 Try.underlying26 hi hz0 hz1 hz2 rfl (by decide) v n _ hown q m c (l.map (Value.int .u64)) (by rw [List.length_map, hb.1]; omega) (by
    intro j u hj
    rw [List.getElem?_map] at hj
    have hl := hb.1
    cases hlj : l[j]? with
    | none => rw [hlj] at hj; cases hj
    | some y =>
      rw [hlj] at hj
      have hjl := (List.getElem?_eq_some_iff.1 hlj).1
      obtain ⟨b, off, e, hc⟩ := hb.2 (by omega)
      cases e
      rw [Addr.add_lit, hc j y hlj]
      exact hj) (by intro u hu; obtain ⟨y, _, rfl⟩ := List.mem_map.1 hu; rfl) (by unfold maxLen; omega) (by omega) hB
  unfold Oper.wp execOp
  simp only [ho, resolve, invoke, builtin, Sem.run_bind, Sem.run_pure, Result.andThen_ok, List.map_toArray, List.map_cons, List.map_nil, hs, hx, hr]
  exact h v' w' (by rw [List.map_append]; exact h1) h2
theorem step_appI' (w : World) (B : Nat) (hB : B ≤ w.heap.size) {ops : Array Oper} {o : Oper} {a : Act} {K : Act → World → Prop} {Q : Exit → Act → World → Prop} {E : Prop} (hgd : o.guard = none) (s x : Operand)
    (ho : o.op = .call { callee := .builtin .append, args := #[s, x], argTypes := #[26, 26] })
    (v : Value) (n : Nat) (k : List Int) (hs : a.eval s = v) (hown : w.ownsRow B 25 1 v n (k.map (Value.int .u64))) (q : Addr) (m c : Nat) (l : List Int) (hx : a.eval x = .slice (some q) m c) (hb : Ids w (some q) m l) (hm : n + m ≤ 1099511627776)
    (h : ∀ v' w', w'.ownsRow B 25 1 v' (n + m) ((k ++ l).map (Value.int .u64)) → w.grownBy w' v.ownBlock → K (a.put o.dst v') w') :
    if Region.wanted o (yielded ops a.tmps) = true then Oper.wp Try.prog o a w K Q else E := by
  have hw : Region.wanted o (yielded ops a.tmps) = true := by simp [Region.wanted, hgd]
  rw [if_pos hw]
  exact wp_appI' w B hB s x ho v n k hs hown q m c l hx hb hm h
/-- n parents, as they are read, behind those that are read -/
def parsR : Nat → List UInt8 → Nat → Int → List Int → List Int × Nat × Int
  | 0, _, p, e, acc => (acc, p, e)
  | n + 1, l, p, e, acc => if e ≠ 0 then (acc, p, e) else parsR n l (wordR l p e).2.1 (wordR l p e).2.2 (acc ++ [(wordR l p e).1])
/-- a commit, as it is read -/
def comR (l : List UInt8) (p : Nat) (e : Int) : (Int × List Int × ByteArray × Int × ByteArray) × Nat × Int :=
  let t := wordR l p e
  let u := uintR l t.2.1 t.2.2
  let q := parsR u.1.toNat l u.2.1 u.2.2 []
  let a := textR l q.2.1 q.2.2 64
  let d := wordR l a.2.1 a.2.2
  let x := textR l d.2.1 d.2.2 1024
  ((t.1, q.1, a.1, wrap64 d.1, x.1), x.2.1, x.2.2)
/-- what stands while a commit is read -/
structure CR (w : World) (r g : Nat) (l : List UInt8) (p : Nat) (e : Int) (t : Int) (acc : List Int) (ad : Option Addr) (n cp : Nat) (au : ByteArray) (d : Int) (tx : ByteArray) (W : World) : Prop where
  rd : Rd W r g p e l
  gr : w.grownBy W (some r)
  box : Box5 W w.heap.size (.int .u64 t) (.slice ad n cp) (.string au) (.int .i64 d) (.string tx)
  row : W.ownsRow (w.heap.size + 1) 25 1 (.slice ad n cp) n (acc.map (Value.int .u64))
  low : w.heap.size + 1 ≤ W.heap.size
section
variable {w W W1 : World} {r g : Nat} {l : List UInt8} {p p' : Nat} {e e' t : Int} {acc : List Int} {ad : Option Addr} {n cp : Nat} {au : ByteArray} {d : Int} {tx : ByteArray}
theorem CR.next (h : CR w r g l p e t acc ad n cp au d tx W) (hr : r < w.heap.size) (hR : Rd W1 r g p' e' l) (hg : W.grownBy W1 (some r)) : CR w r g l p' e' t acc ad n cp au d tx W1 :=
  ⟨hR, grownBy_trans h.gr hg, (hg.block _ h.box.lt (fun e => by have : w.heap.size = r := Option.some.inj e; omega)).trans h.box, own_grown h.row hg (by omega), Nat.le_trans h.low hg.size⟩
theorem CR.alloc (h : CR w r g l p e t acc ad n cp au d tx W) (hr : r < w.heap.size) (o : Obj) : CR w r g l p e t acc ad n cp au d tx (W.alloc o) := by
  have hg : W.grownBy (W.alloc o) none := ⟨rfl, rfl, rfl, by simp, fun k hk _ => Below.heap_alloc _ _ _ hk⟩
  exact h.next hr (h.rd.kept hg (by simp) (by simp)) (grownBy_wide hg)
theorem CR.drewN (h : CR w r g l p e t acc ad n cp au d tx W) (hr : r < w.heap.size) (k : Nat) : CR w r g l p e t acc ad n cp au d tx (W.drewN k) := h.next hr (h.rd.drewN k) (grownBy_drewN _ _ _)
theorem CR.drew (h : CR w r g l p e t acc ad n cp au d tx W) (hr : r < w.heap.size) : CR w r g l p e t acc ad n cp au d tx W.drew := h.next hr (h.rd.kept (row := none) ⟨rfl, rfl, rfl, Nat.le_refl _, fun _ _ _ => rfl⟩ (by simp) (by simp)) ⟨rfl, rfl, rfl, Nat.le_refl _, fun _ _ _ => rfl⟩
theorem cr_set (h : CR w r g l p e t acc ad n cp au d tx W) (hr : r < w.heap.size) (hgw : g < w.heap.size) (k : Nat) (v : Value) :
    Rd (W.setCell ⟨w.heap.size, k, none⟩ v) r g p e l ∧ w.grownBy (W.setCell ⟨w.heap.size, k, none⟩ v) (some r) ∧ (W.setCell ⟨w.heap.size, k, none⟩ v).ownsRow (w.heap.size + 1) 25 1 (.slice ad n cp) n (acc.map (Value.int .u64)) ∧ w.heap.size + 1 ≤ (W.setCell ⟨w.heap.size, k, none⟩ v).heap.size := by
  have s1 : W.grownBy (W.setCell ⟨w.heap.size, k, none⟩ v) (some w.heap.size) := grownBy_setCell _ _ _ _
  refine ⟨h.rd.kept s1 (by simp; omega) (by simp; omega), ⟨s1.os.trans h.gr.os, s1.tape.trans h.gr.tape, s1.output.trans h.gr.output, Nat.le_trans h.gr.size s1.size, fun j hj hn => ?_⟩, own_grown h.row s1 (by omega), Nat.le_trans h.low s1.size⟩
  exact (s1.block j (Nat.lt_of_lt_of_le hj h.gr.size) (by simp; omega)).trans (h.gr.block j hj hn)
theorem box_set {a0 a1 a2 a3 a4 : Value} {B : Nat} (h : Box5 W B a0 a1 a2 a3 a4) : (∀ v, Box5 (W.setCell ⟨B, 0, none⟩ v) B v a1 a2 a3 a4) ∧ (∀ v, Box5 (W.setCell ⟨B, 1, none⟩ v) B a0 v a2 a3 a4) ∧ (∀ v, Box5 (W.setCell ⟨B, 2, none⟩ v) B a0 a1 v a3 a4) ∧ (∀ v, Box5 (W.setCell ⟨B, 3, none⟩ v) B a0 a1 a2 v a4) ∧ (∀ v, Box5 (W.setCell ⟨B, 4, none⟩ v) B a0 a1 a2 a3 v) := by
  have h' : W.heap[B]? = _ := h
  have hl := h.lt
  unfold Box5
  simp [World.setCell, Array.getElem?_modify, h']
theorem CR.set0 (h : CR w r g l p e t acc ad n cp au d tx W) (hr : r < w.heap.size) (hgw : g < w.heap.size) (v : Int) : CR w r g l p e v acc ad n cp au d tx (W.setCell ⟨w.heap.size, 0, none⟩ (.int .u64 v)) := by
  obtain ⟨h1, h2, h3, h4⟩ := cr_set h hr hgw 0 (.int .u64 v)
  exact ⟨h1, h2, (box_set h.box).1 _, h3, h4⟩
theorem CR.set2 (h : CR w r g l p e t acc ad n cp au d tx W) (hr : r < w.heap.size) (hgw : g < w.heap.size) (v : ByteArray) : CR w r g l p e t acc ad n cp v d tx (W.setCell ⟨w.heap.size, 2, none⟩ (.string v)) := by
  obtain ⟨h1, h2, h3, h4⟩ := cr_set h hr hgw 2 (.string v)
  exact ⟨h1, h2, (box_set h.box).2.2.1 _, h3, h4⟩
theorem CR.set3 (h : CR w r g l p e t acc ad n cp au d tx W) (hr : r < w.heap.size) (hgw : g < w.heap.size) (v : Int) : CR w r g l p e t acc ad n cp au v tx (W.setCell ⟨w.heap.size, 3, none⟩ (.int .i64 v)) := by
  obtain ⟨h1, h2, h3, h4⟩ := cr_set h hr hgw 3 (.int .i64 v)
  exact ⟨h1, h2, (box_set h.box).2.2.2.1 _, h3, h4⟩
theorem CR.set4 (h : CR w r g l p e t acc ad n cp au d tx W) (hr : r < w.heap.size) (hgw : g < w.heap.size) (v : ByteArray) : CR w r g l p e t acc ad n cp au d v (W.setCell ⟨w.heap.size, 4, none⟩ (.string v)) := by
  obtain ⟨h1, h2, h3, h4⟩ := cr_set h hr hgw 4 (.string v)
  exact ⟨h1, h2, (box_set h.box).2.2.2.2 _, h3, h4⟩
theorem CR.ob (h : CR w r g l p e t acc ad n cp au d tx W) : ∀ k, (Value.slice ad n cp).ownBlock = some k → w.heap.size + 1 ≤ k := fun k hk => by
  rcases h.row.2 with ⟨e, _⟩ | ⟨g', cap, cur, e, hb, _⟩
  · rw [e] at hk; cases hk
  · rw [e] at hk; cases hk; exact hb
theorem CR.boxed (h : CR w r g l p e t acc ad n cp au d tx W) (hg : W.grownBy W1 (Value.slice ad n cp).ownBlock) : Box5 W1 w.heap.size (.int .u64 t) (.slice ad n cp) (.string au) (.int .i64 d) (.string tx) :=
  (hg.block _ h.box.lt (fun e => by have := h.ob _ e.symm; omega)).trans h.box
theorem CR.push {x : Int} {ad' : Option Addr} {cp' : Nat} (h : CR w r g l p e t acc ad n cp au d tx W) (hr : r < w.heap.size) (hgw : g < w.heap.size)
    (ho : W1.ownsRow (w.heap.size + 1) 25 1 (.slice ad' (n + 1) cp') (n + 1) ((acc ++ [x]).map (Value.int .u64))) (hg : W.grownBy W1 (Value.slice ad n cp).ownBlock) :
    CR w r g l p e t (acc ++ [x]) ad' (n + 1) cp' au d tx (W1.setCell ⟨w.heap.size, 1, none⟩ (.slice ad' (n + 1) cp')) := by
  have hob := h.ob
  have hbx := h.boxed hg
  have hR1 : Rd W1 r g p e l := h.rd.kept (row := (Value.slice ad n cp).ownBlock) hg (fun e => by have := hob r e; omega) (fun e => by have := hob g e; omega)
  have hw1 : w.grownBy W1 (some r) := ⟨hg.os.trans h.gr.os, hg.tape.trans h.gr.tape, hg.output.trans h.gr.output, Nat.le_trans h.gr.size hg.size, fun k hk hn => (hg.block k (Nat.lt_of_lt_of_le hk h.gr.size) (fun e => by have := hob k e.symm; omega)).trans (h.gr.block k hk hn)⟩
  have h1 : CR w r g l p e t (acc ++ [x]) ad' (n + 1) cp' au d tx W1 → CR w r g l p e t (acc ++ [x]) ad' (n + 1) cp' au d tx W1 := id
  have s1 : W1.grownBy (W1.setCell ⟨w.heap.size, 1, none⟩ (.slice ad' (n + 1) cp')) (some w.heap.size) := grownBy_setCell _ _ _ _
  refine ⟨hR1.kept s1 (by simp; omega) (by simp; omega), ⟨s1.os.trans hw1.os, s1.tape.trans hw1.tape, s1.output.trans hw1.output, Nat.le_trans hw1.size s1.size, fun j hj hn => ?_⟩, (box_set hbx).2.1 _, own_grown ho s1 (by omega), ?_⟩
  · exact (s1.block j (Nat.lt_of_lt_of_le hj hw1.size) (by simp; omega)).trans (hw1.block j hj hn)
  · have := h.low; have := hg.size; have := s1.size; omega
end
/-- what a call that reads a commit answers -/
def ComOut (w : World) (c : Int × List Int × ByteArray × Int × ByteArray) (x : Ending) (w' : World) : Prop :=
  ∃ ad cp, x = .returned (coV c.1 ad c.2.1.length cp c.2.2.1 c.2.2.2.1 c.2.2.2.2) ∧ w'.ownsRow w.heap.size 25 1 (.slice ad c.2.1.length cp) c.2.1.length (c.2.1.map (Value.int .u64))
theorem com_out {w W : World} {r g : Nat} {l : List UInt8} {p p6 : Nat} {e e6 t : Int} {acc : List Int} {ad : Option Addr} {n cp : Nat} {au : ByteArray} {d : Int} {tx : ByteArray} (hE : comR l p e = ((t, acc, au, d, tx), p6, e6)) (h : CR w r g l p6 e6 t acc ad n cp au d tx W) :
    Rd W r g (comR l p e).2.1 (comR l p e).2.2 l ∧ w.grownBy W (some r) ∧ ComOut w (comR l p e).1 (.returned (coV t ad n cp au d tx)) W := by
  rw [hE]
  have hn : acc.length = n := by have := h.row.1; rw [List.length_map] at this; omega
  subst hn
  refine ⟨h.rd, h.gr, ad, cp, rfl, h.row.1, ?_⟩
  rcases h.row.2 with h2 | ⟨g', cap, cur, e', hb, h3⟩
  · exact .inl h2
  · exact .inr ⟨g', cap, cur, e', by omega, h3⟩

set_option maxRecDepth 20000 in
set_option maxHeartbeats 8000000 in
theorem readCommit_any (w : World) (r g p : Nat) (e : Int) (l : List UInt8) (h : Rd w r g p e l) (hr : r < w.heap.size) (hg : g < w.heap.size) (hl : l.length ≤ 549755813888) :
    Calls Try.prog 37 #[.pointer (some ⟨r, 0, none⟩)] w fun x w' => Rd w' r g (comR l p e).2.1 (comR l p e).2.2 l ∧ w.grownBy w' (some r) ∧ ComOut w (comR l p e).1 x w' := by
  have h0 : Rd (w.alloc (.cells #[.int .u64 0, .slice none 0 0, .string ⟨#[]⟩, .int .i64 0, .string ⟨#[]⟩] 28)) r g p e l := h.kept (row := none) ⟨rfl, rfl, rfl, by simp, fun k hk _ => Below.heap_alloc _ _ _ hk⟩ (by simp) (by simp)
  have C0 : Hid (CR w r g l p e 0 [] none 0 0 ⟨#[]⟩ 0 ⟨#[]⟩ (w.alloc (.cells #[.int .u64 0, .slice none 0 0, .string ⟨#[]⟩, .int .i64 0, .string ⟨#[]⟩] 28))) := ⟨h0, ⟨rfl, rfl, rfl, by simp, fun k hk _ => Below.heap_alloc _ _ _ hk⟩, Box5.new _ _ _ _ _ _, World.ownsRow_nil _ _ _ _, by simp⟩
  have hw0 := word_st _ r g p e l h0
  have HU : Hid (∀ W p' e', Rd W r g p' e' l → Calls Try.prog 49 #[.pointer (some ⟨r, 0, none⟩)] W fun x w' => x = .returned (.int .u64 (uintR l p' e').1) ∧ Rd w' r g (uintR l p' e').2.1 (uintR l p' e').2.2 l ∧ W.grownBy w' (some r)) := fun W p' e' hW => uint_st W r g p' e' l hW
  obtain ⟨RES, hRES⟩ : ∃ RES, RES = parsR (uintR l (wordR l p e).2.1 (wordR l p e).2.2).1.toNat l (uintR l (wordR l p e).2.1 (wordR l p e).2.2).2.1 (uintR l (wordR l p e).2.1 (wordR l p e).2.2).2.2 [] := ⟨_, rfl⟩
  obtain ⟨⟨tv, p1, e1⟩, hW1⟩ : ∃ y, y = wordR l p e := ⟨_, rfl⟩
  have hfin : comR l p e = ((tv, RES.1, (textR l RES.2.1 RES.2.2 64).1, wrap64 (wordR l (textR l RES.2.1 RES.2.2 64).2.1 (textR l RES.2.1 RES.2.2 64).2.2).1, (textR l (wordR l (textR l RES.2.1 RES.2.2 64).2.1 (textR l RES.2.1 RES.2.2 64).2.2).2.1 (wordR l (textR l RES.2.1 RES.2.2 64).2.1 (textR l RES.2.1 RES.2.2 64).2.2).2.2 1024).1), (textR l (wordR l (textR l RES.2.1 RES.2.2 64).2.1 (textR l RES.2.1 RES.2.2 64).2.2).2.1 (wordR l (textR l RES.2.1 RES.2.2 64).2.1 (textR l RES.2.1 RES.2.2 64).2.2).2.2 1024).2.1, (textR l (wordR l (textR l RES.2.1 RES.2.2 64).2.1 (textR l RES.2.1 RES.2.2 64).2.2).2.1 (wordR l (textR l RES.2.1 RES.2.2 64).2.1 (textR l RES.2.1 RES.2.2 64).2.2).2.2 1024).2.2) := by unfold comR; rw [hRES, ← hW1]
  rw [← hW1] at hw0 hRES
  simp only at hw0 hRES
  obtain ⟨⟨uv, p2, e2⟩, hU1⟩ : ∃ y, y = uintR l p1 e1 := ⟨_, rfl⟩
  have huf := uintR_fits l p1 e1
  rw [← hU1] at hRES huf
  simp only at hRES huf
  have HU1 : Hid (∀ W, Rd W r g p1 e1 l → Calls Try.prog 49 #[.pointer (some ⟨r, 0, none⟩)] W fun x w' => x = .returned (.int .u64 uv) ∧ Rd w' r g p2 e2 l ∧ W.grownBy w' (some r)) := fun W hW => by have := HU.out W p1 e1 hW; rw [← hU1] at this; exact this
  obtain ⟨c, rfl⟩ := Int.eq_ofNat_of_zero_le huf.1
  have HR : Hid (RES = parsR c l p2 e2 []) := hRES
  have HF1 : Hid (comR l p e = ((tv, RES.1, (textR l RES.2.1 RES.2.2 64).1, wrap64 (wordR l (textR l RES.2.1 RES.2.2 64).2.1 (textR l RES.2.1 RES.2.2 64).2.2).1, (textR l (wordR l (textR l RES.2.1 RES.2.2 64).2.1 (textR l RES.2.1 RES.2.2 64).2.2).2.1 (wordR l (textR l RES.2.1 RES.2.2 64).2.1 (textR l RES.2.1 RES.2.2 64).2.2).2.2 1024).1), (textR l (wordR l (textR l RES.2.1 RES.2.2 64).2.1 (textR l RES.2.1 RES.2.2 64).2.2).2.1 (wordR l (textR l RES.2.1 RES.2.2 64).2.1 (textR l RES.2.1 RES.2.2 64).2.2).2.2 1024).2.1, (textR l (wordR l (textR l RES.2.1 RES.2.2 64).2.1 (textR l RES.2.1 RES.2.2 64).2.2).2.1 (wordR l (textR l RES.2.1 RES.2.2 64).2.1 (textR l RES.2.1 RES.2.2 64).2.2).2.2 1024).2.2)) := hfin
  have HE : Hid True := trivial
  clear hRES hfin hU1 hW1 h0 h HU
  go_enter Try.func37, Try.ntmps37
  go_wp2_with first
    | (go_at_call 51; refine hw0.mono ?_; clear hw0; rintro y w1 ⟨rfl, hR1, hG1⟩; have C1 : Hid (CR w r g l p1 e1 0 [] none 0 0 ⟨#[]⟩ 0 ⟨#[]⟩ w1) := C0.out.next hr hR1 hG1; have c1 := C1.out.box.cell.1; have f1 := C1.out.box.frozen.1; have C2 : Hid (CR w r g l p1 e1 tv [] none 0 0 ⟨#[]⟩ 0 ⟨#[]⟩ (w1.setCell ⟨w.heap.size, 0, none⟩ (.int .u64 tv))) := C1.out.set0 hr hg tv; clear C0 C1 hR1 hG1)
    | (go_at_call 49; refine (HU1.out _ C2.out.rd).mono ?_; clear HU1; rintro y w2 ⟨rfl, hR2, hG2⟩; have C3 : Hid (CR w r g l p2 e2 tv [] none 0 0 ⟨#[]⟩ 0 ⟨#[]⟩ w2) := C2.out.next hr hR2 hG2; clear C2 hR2 hG2 c1 f1)
  go_loopw [4] (fun i wr => ∃ (k q : Nat) (f : Int) (acc : List Int) (ad : Option Addr) (n cp : Nat), k ≤ 18446744073709551615 ∧ n ≤ q + 1 ∧ (f = 0 → n ≤ q) ∧ i = .int .u64 (k : Int) ∧ Hid (CR w r g l q f tv acc ad n cp ⟨#[]⟩ 0 ⟨#[]⟩ wr ∧ RES = parsR k l q f acc)) (fun i _ => (intOf i).toNat)
  case atStart => exact ⟨c, p2, e2, [], none, 0, 0, by omega, by omega, fun _ => by omega, rfl, C3.out, HR.out⟩
  case round =>
    clear C3 HR huf
    obtain ⟨k, q, f, acc, ad, n, cp, hk, hn1, hn2, rfl, H⟩ := hrel
    have HN2 : Hid (f = 0 → n ≤ q) := hn2
    clear hn2
    cases k with
    | zero =>
      have HRS : Hid (RES = (acc, q, f)) := (by rw [H.out.2]; rfl : RES = (acc, q, f))
      have C1 : Hid (CR w r g l q f tv acc ad n cp ⟨#[]⟩ 0 ⟨#[]⟩ wr) := H.out.1
      have hA := text_st wr r g q f 64 l C1.out.rd (by omega)
      have HX : Hid (∀ W p' e', Rd W r g p' e' l → Calls Try.prog 53 #[.pointer (some ⟨r, 0, none⟩), .int .i64 1024] W fun x w' => x = .returned (.string (textR l p' e' 1024).1) ∧ Rd w' r g (textR l p' e' 1024).2.1 (textR l p' e' 1024).2.2 l ∧ W.grownBy w' (some r)) := fun W p' e' hW => text_st W r g p' e' 1024 l hW (by omega)
      have HD : Hid (∀ W p' e', Rd W r g p' e' l → Calls Try.prog 51 #[.pointer (some ⟨r, 0, none⟩)] W fun x w' => x = .returned (.int .u64 (wordR l p' e').1) ∧ Rd w' r g (wordR l p' e').2.1 (wordR l p' e').2.2 l ∧ W.grownBy w' (some r)) := fun W p' e' hW => word_st W r g p' e' l hW
      have HFIN : Hid (comR l p e = ((tv, RES.1, (textR l RES.2.1 RES.2.2 64).1, wrap64 (wordR l (textR l RES.2.1 RES.2.2 64).2.1 (textR l RES.2.1 RES.2.2 64).2.2).1, (textR l (wordR l (textR l RES.2.1 RES.2.2 64).2.1 (textR l RES.2.1 RES.2.2 64).2.2).2.1 (wordR l (textR l RES.2.1 RES.2.2 64).2.1 (textR l RES.2.1 RES.2.2 64).2.2).2.2 1024).1), (textR l (wordR l (textR l RES.2.1 RES.2.2 64).2.1 (textR l RES.2.1 RES.2.2 64).2.2).2.1 (wordR l (textR l RES.2.1 RES.2.2 64).2.1 (textR l RES.2.1 RES.2.2 64).2.2).2.2 1024).2.1, (textR l (wordR l (textR l RES.2.1 RES.2.2 64).2.1 (textR l RES.2.1 RES.2.2 64).2.2).2.1 (wordR l (textR l RES.2.1 RES.2.2 64).2.1 (textR l RES.2.1 RES.2.2 64).2.2).2.2 1024).2.2)) := HF1.out
      clear H HF1 HE
      generalize hAA : textR l q f 64 = TA at hA
      obtain ⟨av, p4, e4⟩ := TA
      simp only at hA
      have HAA : Hid (textR l q f 64 = (av, p4, e4)) := hAA
      have hDD : ∃ y, y = wordR l p4 e4 := ⟨_, rfl⟩
      obtain ⟨⟨dv, p5, e5⟩, hDD⟩ := hDD
      have HD4 : Hid (∀ W, Rd W r g p4 e4 l → Calls Try.prog 51 #[.pointer (some ⟨r, 0, none⟩)] W fun x w' => x = .returned (.int .u64 dv) ∧ Rd w' r g p5 e5 l ∧ W.grownBy w' (some r)) := fun W hW => by have := HD.out W p4 e4 hW; rw [← hDD] at this; exact this
      have hXX : ∃ y, y = textR l p5 e5 1024 := ⟨_, rfl⟩
      obtain ⟨⟨xv, p6, e6⟩, hXX⟩ := hXX
      have HX5 : Hid (∀ W, Rd W r g p5 e5 l → Calls Try.prog 53 #[.pointer (some ⟨r, 0, none⟩), .int .i64 1024] W fun x w' => x = .returned (.string xv) ∧ Rd w' r g p6 e6 l ∧ W.grownBy w' (some r)) := fun W hW => by have := HX.out W p5 e5 hW; rw [← hXX] at this; exact this
      have HEND : Hid (comR l p e = ((tv, acc, av, wrap64 dv, xv), p6, e6)) := (by rw [HFIN.out, HRS.out]; simp only; rw [hAA]; simp only; rw [← hDD]; simp only; rw [← hXX] : comR l p e = ((tv, acc, av, wrap64 dv, xv), p6, e6))
      clear hAA hDD hXX HX HD HRS HAA HFIN
      go_wp2_with first
        | (go_at_call 53; refine hA.mono ?_; clear hA; rintro y w4 ⟨rfl, hR4, hG4⟩; have C4 : Hid (CR w r g l p4 e4 tv acc ad n cp ⟨#[]⟩ 0 ⟨#[]⟩ w4) := C1.out.next hr hR4 hG4; have c4 := C4.out.box.cell.2.2.1; have f4 := C4.out.box.frozen.2.2.1; have C5 : Hid (CR w r g l p4 e4 tv acc ad n cp av 0 ⟨#[]⟩ (w4.setCell ⟨w.heap.size, 2, none⟩ (.string av))) := C4.out.set2 hr hg av; clear C1 hR4 hG4 C4)
        | (go_at_call 51; refine (HD4.out _ C5.out.rd).mono ?_; clear HD4; rintro y w5 ⟨rfl, hR5, hG5⟩; have C6 : Hid (CR w r g l p5 e5 tv acc ad n cp av 0 ⟨#[]⟩ w5) := C5.out.next hr hR5 hG5; have c6 := C6.out.box.cell.2.2.2.1; have f6 := C6.out.box.frozen.2.2.2.1; have C7 : Hid (CR w r g l p5 e5 tv acc ad n cp av (wrap64 dv) ⟨#[]⟩ (w5.setCell ⟨w.heap.size, 3, none⟩ (.int .i64 (wrap64 dv)))) := C6.out.set3 hr hg (wrap64 dv); clear C5 hR5 hG5 C6 c4 f4)
        | (go_at_call 53; refine (HX5.out _ C7.out.rd).mono ?_; clear HX5; rintro y w6 ⟨rfl, hR6, hG6⟩; have C8 : Hid (CR w r g l p6 e6 tv acc ad n cp av (wrap64 dv) ⟨#[]⟩ w6) := C7.out.next hr hR6 hG6; have c8 := C8.out.box.cell.2.2.2.2; have f8 := C8.out.box.frozen.2.2.2.2; have C9 : Hid (CR w r g l p6 e6 tv acc ad n cp av (wrap64 dv) xv (w6.setCell ⟨w.heap.size, 4, none⟩ (.string xv))) := C8.out.set4 hr hg xv; obtain ⟨z0, z1, z2, z3, z4⟩ := C9.out.box.cell; clear C7 hR6 hG6 C8 c6 f6)
      go_ret
      exact com_out HEND.out C9.out
    | succ k =>
      have i1 : (0 : Int) < ((k + 1 : Nat) : Int) := by omega
      have i2 : ((k + 1 : Nat) : Int) - 1 = (k : Int) := by omega
      have re := H.out.1.rd.c1
      by_cases hf : f = 0
      · have hnq := HN2.out hf
        subst hf
        have HF := H.out.2
        unfold parsR at HF
        rw [if_neg (by simp)] at HF
        obtain ⟨⟨xv, q', f'⟩, hx⟩ : ∃ y, y = wordR l q 0 := ⟨_, rfl⟩
        have hxp : q ≤ q' ∧ (f' = 0 → q + 8 ≤ q') := by
          have h1 := fun hh => wordR_ok (l := l) (p := q) (e := 0) hh
          rw [← hx] at h1
          simp only at h1
          unfold wordR at hx
          rw [if_neg (by simp)] at hx
          split at hx <;> cases hx
          · exact ⟨Nat.le_refl _, fun h => by cases h⟩
          · exact ⟨by omega, fun _ => by omega⟩
        rw [← hx] at HF
        simp only at HF
        have HFF : Hid (RES = parsR k l q' f' (acc ++ [xv])) := HF
        have hqL := H.out.1.rd.hp
        have C4 : Hid (CR w r g l q 0 tv acc ad n cp ⟨#[]⟩ 0 ⟨#[]⟩ wr) := H.out.1
        obtain ⟨z0, z1, z2, z3, z4⟩ := C4.out.box.cell
        have HSW : Hid (∀ {ops : Array Oper} {o : Oper} {a : Act} {K : Act → World → Prop} {Q : Exit → Act → World → Prop} {E : Prop} (W : World) (_ : Rd W r g q 0 l) (_ : o.guard = none) (x : Nat) (_ : o.op = .call { callee := .value (.func 51), args := #[.tmp x], argTypes := #[73] }) (_ : a.tmps[x]?.getD undef = .pointer (some ⟨r, 0, none⟩)) (_ : ∀ w', Rd w' r g q' f' l → W.grownBy w' (some r) → K (a.put o.dst (.int .u64 xv)) w'), if Region.wanted o (yielded ops a.tmps) = true then Oper.wp Try.prog o a W K Q else E) := fun W hR hgd x ho hx' hK => step_word W r g q 0 l hR hgd x ho hx' (by rw [← hx]; exact hK)
        clear hx H HF
        go_wp2_with (go_at_call 52; refine (err_any _ r 0 re).mono ?_; rintro y w3 ⟨rfl, hw3⟩; subst hw3)
        go_region_law (first
          | (refine HSW.out _ (C4.out.drew hr).rd (by rfl) _ (by rfl) (by rfl) ?_; intro w4 hR4 hG4; have C5 : Hid (CR w r g l q' f' tv acc ad n cp ⟨#[]⟩ 0 ⟨#[]⟩ w4) := (C4.out.drew hr).next hr hR4 hG4; have y1 := C5.out.box.cell.2.1; have C6 : Hid (CR w r g l q' f' tv acc ad n cp ⟨#[]⟩ 0 ⟨#[]⟩ (w4.alloc (.cells #[.int .u64 xv] 25))) := C5.out.alloc hr _; have y2 := C6.out.box.cell.2.1; clear hR4 hG4)
          | (refine step_appI' _ (w.heap.size + 1) C6.out.low (by rfl) _ _ (by rfl) (.slice ad n cp) n acc (by rfl) C6.out.row ⟨w4.heap.size, 0, none⟩ 1 1 [xv] (by rfl) (ids_lit w4 xv) (by omega) ?_; intro v5 w5 ho5 hg5; obtain ⟨ad5, c5, hv5, _⟩ := row_shape ho5; subst hv5; have bx5 := C6.out.boxed hg5; have cb5 := bx5.cell.2.1; have fb5 := bx5.frozen.2.1; have C7 : Hid (CR w r g l q' f' tv (acc ++ [xv]) ad5 (n + 1) c5 ⟨#[]⟩ 0 ⟨#[]⟩ (w5.setCell ⟨w.heap.size, 1, none⟩ (.slice ad5 (n + 1) c5))) := C6.out.push hr hg ho5 hg5; clear ho5 hg5 bx5))
        all_goals
          go_wp2_with fail
          go_roundw
          case rel => exact ⟨k, q', f', acc ++ [xv], ad5, n + 1, c5, by omega, by omega, fun h => by have := hxp.2 h; omega, by simp, C7.out, HFF.out⟩
          case measure => simp [intOf]
      · have f1 : (f == 0) = false := by simp [hf]
        have f2 : (f != 0) = true := by simp [hf]
        have HRS : Hid (RES = (acc, q, f)) := (by rw [H.out.2]; unfold parsR; rw [if_pos hf] : RES = (acc, q, f))
        have C1 : Hid (CR w r g l q f tv acc ad n cp ⟨#[]⟩ 0 ⟨#[]⟩ wr) := H.out.1
        have hA := text_st wr r g q f 64 l C1.out.rd (by omega)
        have HX : Hid (∀ W p' e', Rd W r g p' e' l → Calls Try.prog 53 #[.pointer (some ⟨r, 0, none⟩), .int .i64 1024] W fun x w' => x = .returned (.string (textR l p' e' 1024).1) ∧ Rd w' r g (textR l p' e' 1024).2.1 (textR l p' e' 1024).2.2 l ∧ W.grownBy w' (some r)) := fun W p' e' hW => text_st W r g p' e' 1024 l hW (by omega)
        have HD : Hid (∀ W p' e', Rd W r g p' e' l → Calls Try.prog 51 #[.pointer (some ⟨r, 0, none⟩)] W fun x w' => x = .returned (.int .u64 (wordR l p' e').1) ∧ Rd w' r g (wordR l p' e').2.1 (wordR l p' e').2.2 l ∧ W.grownBy w' (some r)) := fun W p' e' hW => word_st W r g p' e' l hW
        have HFIN : Hid (comR l p e = ((tv, RES.1, (textR l RES.2.1 RES.2.2 64).1, wrap64 (wordR l (textR l RES.2.1 RES.2.2 64).2.1 (textR l RES.2.1 RES.2.2 64).2.2).1, (textR l (wordR l (textR l RES.2.1 RES.2.2 64).2.1 (textR l RES.2.1 RES.2.2 64).2.2).2.1 (wordR l (textR l RES.2.1 RES.2.2 64).2.1 (textR l RES.2.1 RES.2.2 64).2.2).2.2 1024).1), (textR l (wordR l (textR l RES.2.1 RES.2.2 64).2.1 (textR l RES.2.1 RES.2.2 64).2.2).2.1 (wordR l (textR l RES.2.1 RES.2.2 64).2.1 (textR l RES.2.1 RES.2.2 64).2.2).2.2 1024).2.1, (textR l (wordR l (textR l RES.2.1 RES.2.2 64).2.1 (textR l RES.2.1 RES.2.2 64).2.2).2.1 (wordR l (textR l RES.2.1 RES.2.2 64).2.1 (textR l RES.2.1 RES.2.2 64).2.2).2.2 1024).2.2)) := HF1.out
        clear H HF1 HE
        generalize hAA : textR l q f 64 = TA at hA
        obtain ⟨av, p4, e4⟩ := TA
        simp only at hA
        have HAA : Hid (textR l q f 64 = (av, p4, e4)) := hAA
        have hDD : ∃ y, y = wordR l p4 e4 := ⟨_, rfl⟩
        obtain ⟨⟨dv, p5, e5⟩, hDD⟩ := hDD
        have HD4 : Hid (∀ W, Rd W r g p4 e4 l → Calls Try.prog 51 #[.pointer (some ⟨r, 0, none⟩)] W fun x w' => x = .returned (.int .u64 dv) ∧ Rd w' r g p5 e5 l ∧ W.grownBy w' (some r)) := fun W hW => by have := HD.out W p4 e4 hW; rw [← hDD] at this; exact this
        have hXX : ∃ y, y = textR l p5 e5 1024 := ⟨_, rfl⟩
        obtain ⟨⟨xv, p6, e6⟩, hXX⟩ := hXX
        have HX5 : Hid (∀ W, Rd W r g p5 e5 l → Calls Try.prog 53 #[.pointer (some ⟨r, 0, none⟩), .int .i64 1024] W fun x w' => x = .returned (.string xv) ∧ Rd w' r g p6 e6 l ∧ W.grownBy w' (some r)) := fun W hW => by have := HX.out W p5 e5 hW; rw [← hXX] at this; exact this
        have HEND : Hid (comR l p e = ((tv, acc, av, wrap64 dv, xv), p6, e6)) := (by rw [HFIN.out, HRS.out]; simp only; rw [hAA]; simp only; rw [← hDD]; simp only; rw [← hXX] : comR l p e = ((tv, acc, av, wrap64 dv, xv), p6, e6))
        clear hAA hDD hXX HX HD HRS HAA HFIN
        go_wp2_with first
          | (go_at_call 52; refine (err_any _ r f re).mono ?_; rintro y w3 ⟨rfl, hw3⟩; subst hw3)
          | (go_at_call 53; refine hA.mono ?_; clear hA; rintro y w4 ⟨rfl, hR4, hG4⟩; have C4 : Hid (CR w r g l p4 e4 tv acc ad n cp ⟨#[]⟩ 0 ⟨#[]⟩ w4) := C1.out.next hr hR4 hG4; have c4 := C4.out.box.cell.2.2.1; have f4 := C4.out.box.frozen.2.2.1; have C5 : Hid (CR w r g l p4 e4 tv acc ad n cp av 0 ⟨#[]⟩ (w4.setCell ⟨w.heap.size, 2, none⟩ (.string av))) := C4.out.set2 hr hg av; clear C1 hR4 hG4 C4)
          | (go_at_call 51; refine (HD4.out _ C5.out.rd).mono ?_; clear HD4; rintro y w5 ⟨rfl, hR5, hG5⟩; have C6 : Hid (CR w r g l p5 e5 tv acc ad n cp av 0 ⟨#[]⟩ w5) := C5.out.next hr hR5 hG5; have c6 := C6.out.box.cell.2.2.2.1; have f6 := C6.out.box.frozen.2.2.2.1; have C7 : Hid (CR w r g l p5 e5 tv acc ad n cp av (wrap64 dv) ⟨#[]⟩ (w5.setCell ⟨w.heap.size, 3, none⟩ (.int .i64 (wrap64 dv)))) := C6.out.set3 hr hg (wrap64 dv); clear C5 hR5 hG5 C6 c4 f4)
          | (go_at_call 53; refine (HX5.out _ C7.out.rd).mono ?_; clear HX5; rintro y w6 ⟨rfl, hR6, hG6⟩; have C8 : Hid (CR w r g l p6 e6 tv acc ad n cp av (wrap64 dv) ⟨#[]⟩ w6) := C7.out.next hr hR6 hG6; have c8 := C8.out.box.cell.2.2.2.2; have f8 := C8.out.box.frozen.2.2.2.2; have C9 : Hid (CR w r g l p6 e6 tv acc ad n cp av (wrap64 dv) xv (w6.setCell ⟨w.heap.size, 4, none⟩ (.string xv))) := C8.out.set4 hr hg xv; obtain ⟨z0, z1, z2, z3, z4⟩ := C9.out.box.cell; clear C7 hR6 hG6 C8 c6 f6)
        go_ret
        exact com_out HEND.out C9.out
end Go.Proofs.Ytdibdcbihleflab

/- Bytes, read as an object. -/
namespace Go.Proofs.Ytdibdcbihleflab
open Go.RowKit

attribute [local go_sem] Oper.semAt_some

theorem end_st (w : World) (r g p : Nat) (e : Int) (l : List UInt8) (h : Rd w r g p e l) :
    Calls Try.prog 38 #[.pointer (some ⟨r, 0, none⟩)] w fun x w' => ∃ z : Int, x = .returned (.int .i64 z) ∧ (z = 0 ↔ e = 0 ∧ p = l.length) ∧ Below w.heap.size w w' := by
  have hp := h.hp
  by_cases he : e = 0
  · subst he
    refine (end_ok w r g p (l.length - p) l h (by omega)).mono fun x w' hx => ?_
    obtain ⟨hx, k, rfl⟩ := hx
    refine ⟨_, hx, ?_, below_drewN (Below.refl _ _) k⟩
    split
    · constructor
      · intro h; omega
      · intro h; omega
    · constructor
      · intro _; omega
      · intro _; rfl
  · refine (end_err w r e h.c1 (by simp [he])).mono fun x w' hx => ⟨e, hx.1, ?_, by rw [hx.2]; exact Below.refl _ _⟩
    constructor
    · intro h; exact absurd h he
    · intro h; exact h.1
theorem raw_st (w : World) (r g p m n : Nat) (l : List UInt8) (h : Rd w r g p 0 l) (hm : l.length = p + m) (hn : n ≤ m) (hlim : m ≤ 281474976710656) :
    Calls Try.prog 34 #[.pointer (some ⟨r, 0, none⟩), .int .i64 n] w fun e w' => ∃ ad c, e = .returned (.slice (some ad) n c) ∧ Bytes w' (some ad) n ((l.drop p).take n) ∧ Rd w' r g (p + n) 0 l ∧ w.grownBy w' (some r) := by
  have Hm : Hid (l.length = p + m) := hm
  clear hm
  go_enter Try.func34, Try.ntmps34
  go_wp2_with fail
  refine (take_yes _ r g p m n l h Hm.out hn).mono ?_
  rintro e w1 ⟨a, c, rfl, hb, hr, hg⟩
  go_wp2_with fail
  refine (withRoom_any a n c 0 _ _ hb (by omega)).mono ?_
  rintro e w2 ⟨rfl, hown, hg2⟩
  go_wp2
  go_ret
  refine ⟨_, _, rfl, (ownsRow_bytes hown).1, hr.kept hg2 (by simp) (by simp), grownBy_trans hg (grownBy_wide hg2)⟩
/-- an object, as plain data -/
inductive Ob where
  | blob (b : List UInt8)
  | tree (l : List Ent)
  | com (c : Int × List Int × ByteArray × Int × ByteArray)
/-- the object that bytes have the form of -/
def decR (l : List UInt8) : Option Ob :=
  if (byteR l 0 0).1 = 98 then some (.blob (l.drop 1))
  else if (byteR l 0 0).1 = 116 then
    (match (treeR l 1 0).1 with
    | none => none
    | some ents => if (treeR l 1 0).2.2 = 0 ∧ (treeR l 1 0).2.1 = l.length then some (.tree ents) else none)
  else if (byteR l 0 0).1 = 99 then (if (comR l 1 0).2.2 = 0 ∧ (comR l 1 0).2.1 = l.length then some (.com (comR l 1 0).1) else none)
  else none
/-- how an object that is read lies in memory -/
def DecOut (w : World) : Option Ob → Ending → World → Prop
  | none, x, _ => x = .returned .nilIface
  | some (.blob b), x, w' => ∃ ad cp, x = .returned (.iface 31 (.agg #[.slice (some ad) b.length cp])) ∧ Bytes w' (some ad) b.length b
  | some (.tree l), x, w' => ∃ ad cp, x = .returned (trV ad l.length cp) ∧ w'.ownsRow w.heap.size 56 3 (.slice ad l.length cp) l.length (entCells l)
  | some (.com c), x, w' => ComOut w c x w'
theorem byte_head {l : List UInt8} (h : (byteR l 0 0).1 ≠ 0) : byteR l 0 0 = ((byteR l 0 0).1, 1, 0) ∧ 1 ≤ l.length := by
  unfold byteR at h ⊢
  rw [if_neg (by simp)] at h ⊢
  by_cases hp : 0 < l.length
  · rw [if_pos hp]; exact ⟨rfl, hp⟩
  · rw [if_neg hp] at h; exact absurd rfl h
theorem below_of_gr {w W W' : World} {r : Nat} (h : Below w.heap.size w W) (hg : W.grownBy W' (some r)) (hr : w.heap.size ≤ r) : Below w.heap.size w W' := h.grown hg h.size (fun k hk => by cases hk; exact hr)
theorem row_lower' {w w1 W : World} {t : TypeId} {z n : Nat} {v : Value} {xs : List Value} (h : W.ownsRow w1.heap.size t z v n xs) (hl : w.heap.size ≤ w1.heap.size) : W.ownsRow w.heap.size t z v n xs := by
  refine ⟨h.1, ?_⟩
  rcases h.2 with h2 | ⟨g', cap, cur, e', hb, h3⟩
  · exact .inl h2
  · exact .inr ⟨g', cap, cur, e', by omega, h3⟩
theorem row_keep {W W' : World} {B n : Nat} {t : TypeId} {z : Nat} {v : Value} {xs : List Value} (h : W.ownsRow B t z v n xs) (hB : Below W.heap.size W W') : W'.ownsRow B t z v n xs :=
  h.kept (row := none) ⟨hB.os, hB.tape, hB.output, hB.size, fun k hk _ => hB.block k hk⟩ (by cases v.ownBlock <;> simp)

set_option maxRecDepth 20000 in
set_option maxHeartbeats 4000000 in
theorem decode_any (a : Option Addr) (n cap : Nat) (l : List UInt8) (w : World) (hb : Bytes w a n l) (hn : n ≤ 549755813888) :
    Calls Try.prog 21 #[.slice a n cap] w fun x w' => DecOut w (decR l) x w' ∧ Below w.heap.size w w' := by
  have hrd := oread_any a n cap l w hb (by omega)
  have hll := hb.1
  by_cases h98 : (byteR l 0 0).1 = 98
  · obtain ⟨hb1, hb2⟩ := byte_head (l := l) (by rw [h98]; decide)
    have hdec : decR l = some (.blob (l.drop 1)) := by unfold decR; rw [if_pos h98]
    rw [h98] at hb1
    rw [hdec]
    have HB : Hid (byteR l 0 0 = (98, 1, 0)) := hb1
    obtain ⟨m, hm⟩ : ∃ m, l.length = 1 + m := ⟨l.length - 1, by omega⟩
    have Hm : Hid (l.length = 1 + m) := hm
    have hm2 : m ≤ 549755813888 := by omega
    clear hb1 hb2 hdec hm hll hb h98
    go_enter Try.func21, Try.ntmps21
    go_wp2_with first
      | (go_at_call 32; refine hrd.mono ?_; clear hrd; rintro y w1 ⟨r, g, rfl, hr, hg, hR1, hG1⟩; have B1 : Hid (Below w.heap.size w w1) := ⟨hG1.os, hG1.tape, hG1.output, hG1.size, fun k hk => hG1.block k hk (by simp)⟩; have hby := byte_st w1 r g 0 0 l hR1; rw [HB.out] at hby; have hrl : r < w1.heap.size := World.block_lt_of_cell? w1 _ hR1.c0; clear hR1 hG1)
      | (go_at_call 33; refine hby.mono ?_; clear hby; rintro y w2 ⟨rfl, hR2, hG2⟩; have R2 : Hid (Rd w2 r g 1 0 l ∧ Below w.heap.size w w2) := ⟨hR2, below_of_gr B1.out hG2 hr⟩; have hr2 : r < w2.heap.size := Nat.lt_of_lt_of_le hrl hG2.size; clear hR2 hG2 B1)
      | (go_at_call 35; refine (left_any _ r g 1 m 0 l R2.out.1 Hm.out).mono ?_; rintro y w3 ⟨rfl, kk, hw3⟩; have R3 : Hid (Rd w3 r g 1 0 l ∧ Below w.heap.size w w3) := ⟨by rw [hw3]; exact R2.out.1.drewN kk, by rw [hw3]; exact below_drewN R2.out.2 kk⟩; clear hw3 R2)
      | (go_at_call 34; refine (raw_st _ r g 1 m m l R3.out.1 Hm.out (Nat.le_refl _) (by omega)).mono ?_; rintro y w4 ⟨ad, cp, rfl, hy4, hR4, hG4⟩; have R4 : Hid (Rd w4 r g (1 + m) 0 l ∧ Below w.heap.size w w4 ∧ Bytes w4 (some ad) m ((l.drop 1).take m)) := ⟨hR4, below_of_gr R3.out.2 hG4 hr, hy4⟩; clear hR4 hG4 hy4 R3)
      | (go_at_call 38; refine (end_st _ r g _ _ l R4.out.1).mono ?_; rintro y w5 ⟨z, rfl, hz, hB5⟩; obtain rfl : z = 0 := hz.2 ⟨rfl, Hm.out.symm⟩; have R5 : Hid (Below w.heap.size w w5 ∧ Bytes w5 (some ad) m ((l.drop 1).take m)) := ⟨R4.out.2.1.trans (hB5.mono R4.out.2.1.size), bytes_below R4.out.2.2 hB5⟩; clear hz hB5 R4)
    go_ret
    have h1 : (l.drop 1).length = m := by rw [List.length_drop, Hm.out]; omega
    refine ⟨⟨ad, cp, by rw [h1]; rfl, ?_⟩, R5.out.1⟩
    have h2 := R5.out.2
    rw [List.take_of_length_le (by omega)] at h2
    rw [h1]
    exact h2
  · have i98 : ((byteR l 0 0).1 == 98) = false := beq_eq_false_iff_ne.2 h98
    by_cases h116 : (byteR l 0 0).1 = 116
    · obtain ⟨hb1, hb2⟩ := byte_head (l := l) (by rw [h116]; decide)
      rw [h116] at hb1
      have HB : Hid (byteR l 0 0 = (116, 1, 0)) := hb1
      obtain ⟨D, hD⟩ : ∃ D, D = decR l := ⟨_, rfl⟩
      have hD' := hD
      unfold decR at hD'
      rw [if_neg h98, if_pos h116] at hD'
      have HD : Hid (D = match (treeR l 1 0).1 with
        | none => none
        | some ents => if (treeR l 1 0).2.2 = 0 ∧ (treeR l 1 0).2.1 = l.length then some (.tree ents) else none) := hD'
      rw [← hD]
      have HL : Hid (1 ≤ l.length ∧ l.length ≤ 549755813888) := ⟨hb2, by omega⟩
      obtain ⟨⟨to, tp, te⟩, hT⟩ : ∃ y, y = treeR l 1 0 := ⟨_, rfl⟩
      rw [← hT] at HD
      have HTR : Hid (∀ W r g, Rd W r g 1 0 l → r < W.heap.size → g < W.heap.size → Calls Try.prog 36 #[.pointer (some ⟨r, 0, none⟩)] W fun x w' => Rd w' r g tp te l ∧ W.grownBy w' (some r) ∧ TreeOut W to x w') := fun W r g hW h1 h2 => by
        have := readTree_any W r g 1 0 l hW h1 h2 HL.out.2
        rw [← hT] at this
        exact this
      clear hb1 hb2 hll hb h98 h116 hD hD' hT i98
      simp only at HD
      cases to with
      | none =>
        obtain rfl : D = none := HD.out
        clear HD
        go_enter Try.func21, Try.ntmps21
        go_upto_if 27 with (first
          | (go_at_call 32; refine hrd.mono ?_; clear hrd; rintro y w1 ⟨r, g, rfl, hr, hg, hR1, hG1⟩; have B1 : Hid (Below w.heap.size w w1) := ⟨hG1.os, hG1.tape, hG1.output, hG1.size, fun k hk => hG1.block k hk (by simp)⟩; have hby := byte_st w1 r g 0 0 l hR1; rw [HB.out] at hby; have hrl : r < w1.heap.size := World.block_lt_of_cell? w1 _ hR1.c0; clear hR1 hG1)
          | (go_at_call 33; refine hby.mono ?_; clear hby; rintro y w2 ⟨rfl, hR2, hG2⟩; have R2 : Hid (Rd w2 r g 1 0 l ∧ Below w.heap.size w w2) := ⟨hR2, below_of_gr B1.out hG2 hr⟩; have hr2 : r < w2.heap.size := Nat.lt_of_lt_of_le hrl hG2.size; clear hR2 hG2 B1)
          | (go_at_call 36; have hg2 : g < w2.heap.size := World.block_lt_of_cell? w2 _ (R2.out.1.row 0 HL.out.1); refine (HTR.out _ r g R2.out.1 hr2 hg2).mono ?_; rintro y w3 ⟨hR3, hG3, hO3⟩; have hO3' : y = .returned .nilIface := hO3; subst hO3'; have R3 : Hid (Rd w3 r g tp te l ∧ Below w.heap.size w w3) := ⟨hR3, below_of_gr R2.out.2 hG3 hr⟩; clear hR3 hG3 hO3 R2)
          | (go_at_call 38; refine (end_st _ r g _ _ l R3.out.1).mono ?_; rintro y w5 ⟨z, rfl, hz, hB5⟩; have R5 : Hid (Below w.heap.size w w5) := R3.out.2.trans (hB5.mono R3.out.2.size); clear hz hB5 R3))
        by_cases hz0 : z = 0
        · subst hz0
          go_wp2
          go_ret
          exact ⟨rfl, R5.out⟩
        · have z1 : (z != 0) = true := by simp [hz0]
          have z2 : (z == 0) = false := by simp [hz0]
          go_wp2
          go_ret
          exact ⟨rfl, R5.out⟩
      | some ents =>
        simp only at HD
        go_enter Try.func21, Try.ntmps21
        go_upto_if 27 with (first
          | (go_at_call 32; refine hrd.mono ?_; clear hrd; rintro y w1 ⟨r, g, rfl, hr, hg, hR1, hG1⟩; have B1 : Hid (Below w.heap.size w w1) := ⟨hG1.os, hG1.tape, hG1.output, hG1.size, fun k hk => hG1.block k hk (by simp)⟩; have hby := byte_st w1 r g 0 0 l hR1; rw [HB.out] at hby; have hrl : r < w1.heap.size := World.block_lt_of_cell? w1 _ hR1.c0; clear hR1 hG1)
          | (go_at_call 33; refine hby.mono ?_; clear hby; rintro y w2 ⟨rfl, hR2, hG2⟩; have R2 : Hid (Rd w2 r g 1 0 l ∧ Below w.heap.size w w2) := ⟨hR2, below_of_gr B1.out hG2 hr⟩; have hr2 : r < w2.heap.size := Nat.lt_of_lt_of_le hrl hG2.size; clear hR2 hG2 B1)
          | (go_at_call 36; have hg2 : g < w2.heap.size := World.block_lt_of_cell? w2 _ (R2.out.1.row 0 HL.out.1); refine (HTR.out _ r g R2.out.1 hr2 hg2).mono ?_; rintro y w3 ⟨hR3, hG3, hO3⟩; obtain ⟨ad, cp, hy, hO3'⟩ := hO3; subst hy; have R3 : Hid (Rd w3 r g tp te l ∧ Below w.heap.size w w3 ∧ w3.ownsRow w.heap.size 56 3 (.slice ad ents.length cp) ents.length (entCells ents)) := ⟨hR3, below_of_gr R2.out.2 hG3 hr, row_lower' hO3' R2.out.2.size⟩; clear hR3 hG3 hO3' R2)
          | (go_at_call 38; refine (end_st _ r g _ _ l R3.out.1).mono ?_; rintro y w5 ⟨z, rfl, hz, hB5⟩; have HZ : Hid (z = 0 ↔ te = 0 ∧ tp = l.length) := hz; have R5 : Hid (Below w.heap.size w w5 ∧ w5.ownsRow w.heap.size 56 3 (.slice ad ents.length cp) ents.length (entCells ents)) := ⟨R3.out.2.1.trans (hB5.mono R3.out.2.1.size), row_keep R3.out.2.2 hB5⟩; clear hz hB5 R3))
        by_cases hz0 : z = 0
        · have hD := HD.out
          rw [if_pos (HZ.out.1 hz0)] at hD
          subst hz0 hD
          clear HD HZ
          go_wp2
          go_ret
          exact ⟨⟨ad, cp, rfl, R5.out.2⟩, R5.out.1⟩
        · have hD := HD.out
          rw [if_neg (fun h => hz0 (HZ.out.2 h))] at hD
          subst hD
          have z1 : (z != 0) = true := by simp [hz0]
          have z2 : (z == 0) = false := by simp [hz0]
          clear HD HZ
          go_wp2
          go_ret
          exact ⟨rfl, R5.out.1⟩
    · have i116 : ((byteR l 0 0).1 == 116) = false := beq_eq_false_iff_ne.2 h116
      by_cases h99 : (byteR l 0 0).1 = 99
      · obtain ⟨hb1, hb2⟩ := byte_head (l := l) (by rw [h99]; decide)
        rw [h99] at hb1
        have HB : Hid (byteR l 0 0 = (99, 1, 0)) := hb1
        obtain ⟨D, hD⟩ : ∃ D, D = decR l := ⟨_, rfl⟩
        have hD' := hD
        unfold decR at hD'
        rw [if_neg h98, if_neg h116, if_pos h99] at hD'
        have HD : Hid (D = if (comR l 1 0).2.2 = 0 ∧ (comR l 1 0).2.1 = l.length then some (.com (comR l 1 0).1) else none) := hD'
        rw [← hD]
        have HL : Hid (1 ≤ l.length ∧ l.length ≤ 549755813888) := ⟨hb2, by omega⟩
        obtain ⟨⟨co, tp, te⟩, hT⟩ : ∃ y, y = comR l 1 0 := ⟨_, rfl⟩
        rw [← hT] at HD
        have HTR : Hid (∀ W r g, Rd W r g 1 0 l → r < W.heap.size → g < W.heap.size → Calls Try.prog 37 #[.pointer (some ⟨r, 0, none⟩)] W fun x w' => Rd w' r g tp te l ∧ W.grownBy w' (some r) ∧ ComOut W co x w') := fun W r g hW h1 h2 => by
          have := readCommit_any W r g 1 0 l hW h1 h2 HL.out.2
          rw [← hT] at this
          exact this
        clear hb1 hb2 hll hb h98 h116 h99 hD hD' hT i98 i116
        simp only at HD
        obtain ⟨c1, c2, c3, c4, c5⟩ := co
        go_enter Try.func21, Try.ntmps21
        go_upto_if 27 with (first
          | (go_at_call 32; refine hrd.mono ?_; clear hrd; rintro y w1 ⟨r, g, rfl, hr, hg, hR1, hG1⟩; have B1 : Hid (Below w.heap.size w w1) := ⟨hG1.os, hG1.tape, hG1.output, hG1.size, fun k hk => hG1.block k hk (by simp)⟩; have hby := byte_st w1 r g 0 0 l hR1; rw [HB.out] at hby; have hrl : r < w1.heap.size := World.block_lt_of_cell? w1 _ hR1.c0; clear hR1 hG1)
          | (go_at_call 33; refine hby.mono ?_; clear hby; rintro y w2 ⟨rfl, hR2, hG2⟩; have R2 : Hid (Rd w2 r g 1 0 l ∧ Below w.heap.size w w2) := ⟨hR2, below_of_gr B1.out hG2 hr⟩; have hr2 : r < w2.heap.size := Nat.lt_of_lt_of_le hrl hG2.size; clear hR2 hG2 B1)
          | (go_at_call 37; have hg2 : g < w2.heap.size := World.block_lt_of_cell? w2 _ (R2.out.1.row 0 HL.out.1); refine (HTR.out _ r g R2.out.1 hr2 hg2).mono ?_; rintro y w3 ⟨hR3, hG3, hO3⟩; obtain ⟨ad, cp, hy, hO3'⟩ := hO3; subst hy; have R3 : Hid (Rd w3 r g tp te l ∧ Below w.heap.size w w3 ∧ w3.ownsRow w.heap.size 25 1 (.slice ad c2.length cp) c2.length (c2.map (Value.int .u64))) := ⟨hR3, below_of_gr R2.out.2 hG3 hr, row_lower' hO3' R2.out.2.size⟩; clear hR3 hG3 hO3' R2)
          | (go_at_call 38; refine (end_st _ r g _ _ l R3.out.1).mono ?_; rintro y w5 ⟨z, rfl, hz, hB5⟩; have HZ : Hid (z = 0 ↔ te = 0 ∧ tp = l.length) := hz; have R5 : Hid (Below w.heap.size w w5 ∧ w5.ownsRow w.heap.size 25 1 (.slice ad c2.length cp) c2.length (c2.map (Value.int .u64))) := ⟨R3.out.2.1.trans (hB5.mono R3.out.2.1.size), row_keep R3.out.2.2 hB5⟩; clear hz hB5 R3))
        by_cases hz0 : z = 0
        · have hD := HD.out
          rw [if_pos (HZ.out.1 hz0)] at hD
          subst hz0 hD
          clear HD HZ
          go_wp2
          go_ret
          exact ⟨⟨ad, cp, rfl, R5.out.2⟩, R5.out.1⟩
        · have hD := HD.out
          rw [if_neg (fun h => hz0 (HZ.out.2 h))] at hD
          subst hD
          have z1 : (z != 0) = true := by simp [hz0]
          have z2 : (z == 0) = false := by simp [hz0]
          clear HD HZ
          go_wp2
          go_ret
          exact ⟨rfl, R5.out.1⟩
      · have i99 : ((byteR l 0 0).1 == 99) = false := beq_eq_false_iff_ne.2 h99
        have hdec : decR l = none := by unfold decR; rw [if_neg h98, if_neg h116, if_neg h99]
        rw [hdec]
        obtain ⟨⟨bv, bp, be⟩, hB⟩ : ∃ y, y = byteR l 0 0 := ⟨_, rfl⟩
        have HB : Hid (byteR l 0 0 = (bv, bp, be)) := hB.symm
        rw [← hB] at i98 i116 i99
        simp only at i98 i116 i99
        clear hll hb h98 h116 h99 hB hdec
        go_enter Try.func21, Try.ntmps21
        go_upto_if 27 with (first
          | (go_at_call 32; refine hrd.mono ?_; clear hrd; rintro y w1 ⟨r, g, rfl, hr, hg, hR1, hG1⟩; have B1 : Hid (Below w.heap.size w w1) := ⟨hG1.os, hG1.tape, hG1.output, hG1.size, fun k hk => hG1.block k hk (by simp)⟩; have hby := byte_st w1 r g 0 0 l hR1; rw [HB.out] at hby; have hrl : r < w1.heap.size := World.block_lt_of_cell? w1 _ hR1.c0; clear hR1 hG1)
          | (go_at_call 33; refine hby.mono ?_; clear hby; rintro y w2 ⟨rfl, hR2, hG2⟩; have R2 : Hid (Rd w2 r g bp be l ∧ Below w.heap.size w w2) := ⟨hR2, below_of_gr B1.out hG2 hr⟩; have hr2 : r < w2.heap.size := Nat.lt_of_lt_of_le hrl hG2.size; clear hR2 hG2 B1)
          | (go_at_call 38; refine (end_st _ r g _ _ l R2.out.1).mono ?_; rintro y w5 ⟨z, rfl, hz, hB5⟩; have R5 : Hid (Below w.heap.size w w5) := R2.out.2.trans (hB5.mono R2.out.2.size); clear hz hB5 R2))
        by_cases hz0 : z = 0
        · subst hz0
          go_wp2
          go_ret
          exact ⟨rfl, R5.out⟩
        · have z1 : (z != 0) = true := by simp [hz0]
          have z2 : (z == 0) = false := by simp [hz0]
          go_wp2
          go_ret
          exact ⟨rfl, R5.out⟩
end Go.Proofs.Ytdibdcbihleflab

/- Plain: what is read is what was written, and the other way round. -/
namespace Go.Proofs.Ytdibdcbihleflab
open Go.RowKit

theorem wideVal_inj (t u : List UInt8) : ∀ k, wideVal t k = wideVal u k → ∀ i, i < k → bt t i = bt u i := by
  intro k
  induction k with
  | zero => intro _ i hi; omega
  | succ k ih =>
    intro h i hi
    rw [wideVal_succ, wideVal_succ] at h
    have a0 := bt_lo t k
    have a1 := bt_hi t k
    have b0 := bt_lo u k
    have b1 := bt_hi u k
    by_cases e : i = k
    · subst e; omega
    · exact ih (by omega) i (by omega)
theorem bt_ext {t u : List UInt8} (hl : t.length = u.length) (h : ∀ i, i < t.length → bt t i = bt u i) : t = u := by
  refine List.ext_getElem hl fun i h1 h2 => ?_
  have := h i h1
  simp only [bt, List.getD, List.getElem?_eq_getElem h1, List.getElem?_eq_getElem h2, Option.getD_some] at this
  exact UInt8.toNat_inj.1 (by omega)
theorem wide_back (t : List UInt8) (ht : t.length = 8) (X : Nat) (hX : X < 18446744073709551616) (h : wideVal t 8 = (X : Int)) : t = wide X := by
  have hw := wideVal_wide X [] 8 (by omega) (by omega)
  rw [List.append_nil] at hw
  have e : wideVal t 8 = wideVal (wide X) 8 := by rw [h, hw]; simp
  exact bt_ext (by rw [ht, wide_len]) (fun i hi => wideVal_inj t (wide X) 8 e i (by omega))
/-- from p to q lie the bytes A -/
structure At (l : List UInt8) (p : Nat) (A : List UInt8) (q : Nat) : Prop where
  eq : l.drop p = A ++ l.drop q
  len : q = p + A.length
  le : q ≤ l.length
theorem At.trans {l : List UInt8} {p q r : Nat} {A B : List UInt8} (h : At l p A q) (k : At l q B r) : At l p (A ++ B) r :=
  ⟨by rw [h.eq, k.eq, List.append_assoc], by rw [k.len, h.len, List.length_append]; omega, k.le⟩
theorem At.nil {l : List UInt8} {p : Nat} (h : p ≤ l.length) : At l p [] p := ⟨rfl, by simp, h⟩
theorem At.of {l : List UInt8} {p : Nat} {A r : List UInt8} (h : l.drop p = A ++ r) (hp : p ≤ l.length) : At l p A (p + A.length) ∧ l.drop (p + A.length) = r := by
  have e : l.drop (p + A.length) = r := by rw [← List.drop_drop, h]; simp
  refine ⟨⟨by rw [e, h], rfl, ?_⟩, e⟩
  have := congrArg List.length h
  rw [List.length_drop, List.length_append] at this
  omega
/-- forth -/
theorem byte_at {l : List UInt8} {p q : Nat} {e v : Int} (h : byteR l p e = (v, q, 0)) : e = 0 ∧ ∃ c : UInt8, v = (c.toNat : Int) ∧ At l p [c] q := by
  obtain ⟨he, _, hp⟩ := byteR_ok (l := l) (p := p) (e := e) (by rw [h])
  subst he
  unfold byteR at h
  rw [if_neg (by simp), if_pos hp] at h
  simp only [Prod.mk.injEq, and_true] at h
  refine ⟨rfl, l[p], ?_, ?_⟩
  · rw [← h.1]; simp [bt, hp]
  · exact ⟨by rw [List.drop_eq_getElem_cons hp, ← h.2]; rfl, by rw [← h.2]; rfl, by omega⟩
theorem uint_at {l : List UInt8} {p q : Nat} {e v : Int} (h : uintR l p e = (v, q, 0)) (hp : p ≤ l.length) : e = 0 ∧ ∃ X : Nat, v = (X : Int) ∧ X < 18446744073709551616 ∧ At l p (short X) q := by
  unfold uintR at h
  by_cases he : e ≠ 0
  · rw [if_pos he] at h; simp only [Prod.mk.injEq] at h; exact absurd h.2.2 he
  · rw [if_neg he] at h
    by_cases hn : (num (l.drop p)).2.2 = 0
    · rw [if_pos hn] at h
      simp only [Prod.mk.injEq, and_true] at h
      obtain ⟨X, h1, h2, h3, h4, h5, h6⟩ := num_back (l.drop p) (num (l.drop p)).1 (num (l.drop p)).2.1 (by rw [← hn])
      rw [List.length_drop] at h5
      refine ⟨by omega, X, by rw [← h.1]; exact h1, h6, ?_, ?_, by omega⟩
      · rw [h2, ← h.2, ← List.drop_drop, List.take_append_drop]
      · rw [h2, ← h.2, List.length_take, List.length_drop]; omega
    · rw [if_neg hn] at h; simp only [Prod.mk.injEq] at h; exact absurd h.2.2 hn
theorem word_at {l : List UInt8} {p q : Nat} {e v : Int} (h : wordR l p e = (v, q, 0)) : e = 0 ∧ ∃ X : Nat, v = (X : Int) ∧ X < 18446744073709551616 ∧ At l p (wide X) q := by
  obtain ⟨he, _, hp⟩ := wordR_ok (l := l) (p := p) (e := e) (by rw [h])
  subst he
  unfold wordR at h
  rw [if_neg (by simp), if_neg (by omega)] at h
  simp only [Prod.mk.injEq, and_true] at h
  have hlo := wideVal_lo ((l.drop p).take 8) 8
  have hfi := wideVal_fits ((l.drop p).take 8) 8 (by omega)
  obtain ⟨X, hX⟩ := Int.eq_ofNat_of_zero_le hlo
  have ht : ((l.drop p).take 8).length = 8 := by rw [List.length_take, List.length_drop]; omega
  have hb := wide_back _ ht X (by omega) hX
  refine ⟨rfl, X, by rw [← h.1]; exact hX, by omega, ?_, by rw [wide_len]; exact h.2.symm, by omega⟩
  rw [← hb, ← h.2, ← List.drop_drop, List.take_append_drop]
theorem text_at {l : List UInt8} {p q : Nat} {e m : Int} {s : ByteArray} (h : textR l p e m = (s, q, 0)) (hp : p ≤ l.length) : e = 0 ∧ At l p (short s.size ++ s.data.toList) q ∧ (s.size : Int) ≤ m := by
  unfold textR at h
  by_cases he : e ≠ 0
  · rw [if_pos he] at h; simp only [Prod.mk.injEq] at h; exact absurd h.2.2 he
  · rw [if_neg he] at h
    by_cases hn : (txt (l.drop p) m).2.2 = 0
    · rw [if_pos hn] at h
      simp only [Prod.mk.injEq, and_true] at h
      obtain ⟨z1, z2, z3, z4, z5⟩ := txt_zero (l.drop p) m hn
      obtain ⟨X, h1, h2, h3, h4, h5, h6⟩ := num_back (l.drop p) (num (l.drop p)).1 (num (l.drop p)).2.1 (by rw [← z2])
      unfold cutT at h
      rw [z5] at h
      simp only at h
      rw [h1] at h z3 z4
      generalize (num (l.drop p)).2.1 = k at *
      rw [List.length_drop] at h5
      simp only [List.length_drop] at z4
      simp only [Int.toNat_natCast] at h
      have hd : ((l.drop p).take (k + X)).drop k = ((l.drop p).drop k).take X := by rw [List.drop_take]; congr 1; omega
      have hs : s.data.toList = ((l.drop p).drop k).take X := by rw [← h.1, ← hd]
      have hsz : s.size = X := by
        have : s.data.toList.length = s.size := Array.length_toList
        rw [← this, hs, List.length_take, List.length_drop, List.length_drop]; omega
      refine ⟨by omega, ⟨?_, ?_, by omega⟩, by omega⟩
      · rw [hs, hsz, h2, ← h.2, ← List.drop_drop, ← List.drop_drop, List.append_assoc, List.take_append_drop, List.take_append_drop]
      · have l1 : (short s.size).length = k := by rw [hsz, h2, List.length_take, List.length_drop]; omega
        have l2 : s.data.toList.length = s.size := Array.length_toList
        rw [List.length_append, l1, l2, hsz]; omega
    · rw [if_neg hn] at h; simp only [Prod.mk.injEq] at h; exact absurd h.2.2 hn
/-- an entry as it may be read -/
def EntOk (x : Ent) : Prop := x.1.size ≤ 32 ∧ 0 ≤ x.2.2 ∧ x.2.2 < 18446744073709551616
theorem ent_at {l : List UInt8} {p : Nat} {e : Int} {x : Ent} (h : (entR l p e).1 = some x) (hp : p ≤ l.length) : e = 0 ∧ (entR l p e).2.2 = 0 ∧ At l p (entB x) (entR l p e).2.1 ∧ EntOk x := by
  have h2 := (entR_some h).2.2
  unfold entR at h h2 ⊢
  simp only at h h2 ⊢
  obtain ⟨⟨t1, tp, te⟩, ht⟩ : ∃ y, y = textR l p e 32 := ⟨_, rfl⟩
  rw [← ht] at h h2 ⊢
  simp only at h h2 ⊢
  obtain ⟨⟨bv, bp, be⟩, hb⟩ : ∃ y, y = byteR l tp te := ⟨_, rfl⟩
  rw [← hb] at h h2 ⊢
  simp only at h h2 ⊢
  obtain ⟨⟨xv, xp, xe⟩, hx⟩ : ∃ y, y = wordR l bp be := ⟨_, rfl⟩
  rw [← hx] at h h2 ⊢
  simp only at h h2 ⊢
  subst h2
  obtain ⟨rfl, X, rfl, hX, a3⟩ := word_at hx.symm
  obtain ⟨rfl, c, rfl, a2⟩ := byte_at hb.symm
  obtain ⟨rfl, a1, hs⟩ := text_at ht.symm hp
  by_cases hq : (0 : Int) ≠ 0 ∨ 1 < (c.toNat : Int)
  · rw [if_pos hq] at h; cases h
  · rw [if_neg hq] at h
    cases h
    refine ⟨rfl, rfl, ?_, by show t1.size ≤ 32; omega, by show (0 : Int) ≤ (X : Int); omega, by show (X : Int) < _; omega⟩
    have hc : c = if ((c.toNat : Int) == 1) = true then 1 else 0 := by
      have : c.toNat = 0 ∨ c.toNat = 1 := by omega
      rcases this with h0 | h0
      · rw [h0]; exact UInt8.toNat_inj.1 (by rw [h0]; rfl)
      · rw [h0]; exact UInt8.toNat_inj.1 (by rw [h0]; rfl)
    have := (a1.trans a2).trans a3
    unfold entB
    rw [← hc]
    simpa using this
theorem ents_at : ∀ (n : Nat) (l : List UInt8) (p : Nat) (e : Int) (acc R : List Ent), (entsR n l p e acc).1 = some R → (entsR n l p e acc).2.2 = 0 → p ≤ l.length → ∃ M, R = acc ++ M ∧ M.length = n ∧ e = 0 ∧ At l p (entsB M) (entsR n l p e acc).2.1 ∧ ∀ x ∈ M, EntOk x
  | 0, l, p, e, acc, R, h, h0, hp => by
    unfold entsR at h h0 ⊢
    simp only [Option.some.injEq] at h h0 ⊢
    exact ⟨[], by rw [h]; simp, rfl, h0, At.nil hp, fun x hx => by simp at hx⟩
  | n + 1, l, p, e, acc, R, h, h0, hp => by
    unfold entsR at h h0 ⊢
    cases hx : (entR l p e).1 with
    | none => rw [hx] at h; simp at h
    | some x =>
      rw [hx] at h h0
      simp only at h h0 ⊢
      obtain ⟨he, he', a1, ok⟩ := ent_at hx hp
      obtain ⟨M, h1, h2, _, a2, h4⟩ := ents_at n l _ _ _ R h h0 a1.le
      refine ⟨x :: M, by rw [h1]; simp, by simp [h2], he, ?_, fun y hy => ?_⟩
      · have := a1.trans a2
        simpa [entsB] using this
      · rcases List.mem_cons.1 hy with rfl | hy
        · exact ok
        · exact h4 y hy
theorem tree_rd {l : List UInt8} {p : Nat} {R : List Ent} (h : (treeR l p 0).1 = some R) (h0 : (treeR l p 0).2.2 = 0) (hp : p ≤ l.length) : At l p (short R.length ++ entsB R) (treeR l p 0).2.1 ∧ ∀ x ∈ R, EntOk x := by
  unfold treeR at h h0 ⊢
  obtain ⟨⟨u, up, ue⟩, hu⟩ : ∃ y, y = uintR l p 0 := ⟨_, rfl⟩
  rw [← hu] at h h0 ⊢
  simp only at h h0 ⊢
  have hup : up ≤ l.length := by
    by_cases h1 : ue = 0
    · subst h1
      obtain ⟨_, X, _, _, a⟩ := uint_at hu.symm hp
      exact a.le
    · unfold uintR at hu
      rw [if_neg (by simp)] at hu
      split at hu
      · cases hu; exact absurd rfl h1
      · cases hu; exact hp
  obtain ⟨M, h1, h2, h3, a2, h4⟩ := ents_at _ l _ _ _ R h h0 hup
  subst h3
  obtain ⟨_, X, rfl, hX, a1⟩ := uint_at hu.symm hp
  simp only [List.nil_append, Int.toNat_natCast] at h1 h2
  subst h1
  rw [h2]
  exact ⟨a1.trans a2, h4⟩
theorem pars_at : ∀ (n : Nat) (l : List UInt8) (p : Nat) (e : Int) (acc : List Int), (parsR n l p e acc).2.2 = 0 → p ≤ l.length → ∃ M, (parsR n l p e acc).1 = acc ++ M ∧ M.length = n ∧ e = 0 ∧ At l p (parsB M) (parsR n l p e acc).2.1 ∧ ∀ x ∈ M, 0 ≤ x ∧ x < 18446744073709551616
  | 0, l, p, e, acc, h0, hp => by
    unfold parsR at h0 ⊢
    exact ⟨[], by simp, rfl, h0, At.nil hp, fun x hx => by simp at hx⟩
  | n + 1, l, p, e, acc, h0, hp => by
    unfold parsR at h0 ⊢
    by_cases he : e ≠ 0
    · rw [if_pos he] at h0; exact absurd h0 he
    · rw [if_neg he] at h0 ⊢
      obtain ⟨⟨v, q, f⟩, hw⟩ : ∃ y, y = wordR l p e := ⟨_, rfl⟩
      rw [← hw] at h0 ⊢
      simp only at h0 ⊢
      have hq : q ≤ l.length := by
        by_cases hf : f = 0
        · subst hf
          exact (word_at hw.symm).2.elim fun X h => h.2.2.le
        · unfold wordR at hw
          rw [if_neg he] at hw
          split at hw
          · cases hw; exact hp
          · cases hw; exact absurd rfl hf
      obtain ⟨M, h1, h2, h3, a2, h4⟩ := pars_at n l q f _ h0 hq
      subst h3
      obtain ⟨he', X, rfl, hX, a1⟩ := word_at hw.symm
      refine ⟨(X : Int) :: M, by rw [h1]; simp, by simp [h2], he', ?_, fun y hy => ?_⟩
      · have := a1.trans a2
        simpa [parsB] using this
      · rcases List.mem_cons.1 hy with rfl | hy
        · omega
        · exact h4 y hy
end Go.Proofs.Ytdibdcbihleflab

/- Plain: an object's bytes are read as the object, and what is read has just these bytes. -/
namespace Go.Proofs.Ytdibdcbihleflab
open Go.RowKit

theorem du_wrap (D : Nat) (h : D < 18446744073709551616) : du (wrap64 (D : Int)) = D ∧ -9223372036854775808 ≤ wrap64 (D : Int) ∧ wrap64 (D : Int) < 9223372036854775808 := by
  have h1 := (du_eq (wrap64 (D : Int))).1
  simp [IntKind.wrap, IntKind.bits, IntKind.signed] at h1
  unfold wrap64 at *
  omega
theorem wrap_du (d : Int) (h : -9223372036854775808 ≤ d ∧ d < 9223372036854775808) : wrap64 (du d : Int) = d := by
  have h1 := (du_eq d).1
  simp [IntKind.wrap, IntKind.bits, IntKind.signed] at h1
  unfold wrap64
  omega
abbrev ComD := Int × List Int × ByteArray × Int × ByteArray
/-- a commit as it may be read -/
structure ComOk (c : ComD) : Prop where
  tree : 0 ≤ c.1 ∧ c.1 < 18446744073709551616
  pars : ∀ x ∈ c.2.1, 0 ≤ x ∧ x < 18446744073709551616
  num : c.2.1.length < 18446744073709551616
  au : c.2.2.1.size ≤ 64
  date : -9223372036854775808 ≤ c.2.2.2.1 ∧ c.2.2.2.1 < 9223372036854775808
  tx : c.2.2.2.2.size ≤ 1024
abbrev comBB (c : ComD) : List UInt8 := comB c.1 c.2.1 c.2.2.1 c.2.2.2.1 c.2.2.2.2
theorem com_rd {l : List UInt8} (h0 : (comR l 1 0).2.2 = 0) (hp : 1 ≤ l.length) (h1 : l.head? = some 99) : At l 0 (comBB (comR l 1 0).1) (comR l 1 0).2.1 ∧ ComOk (comR l 1 0).1 := by
  unfold comR at h0 ⊢
  simp only at h0 ⊢
  obtain ⟨⟨tv, tp, te⟩, ht⟩ : ∃ y, y = wordR l 1 0 := ⟨_, rfl⟩
  rw [← ht] at h0 ⊢
  simp only at h0 ⊢
  obtain ⟨⟨uv, up, ue⟩, hu⟩ : ∃ y, y = uintR l tp te := ⟨_, rfl⟩
  rw [← hu] at h0 ⊢
  simp only at h0 ⊢
  obtain ⟨⟨qs, qp, qe⟩, hq⟩ : ∃ y, y = parsR uv.toNat l up ue [] := ⟨_, rfl⟩
  rw [← hq] at h0 ⊢
  simp only at h0 ⊢
  obtain ⟨⟨av, ap, ae⟩, ha⟩ : ∃ y, y = textR l qp qe 64 := ⟨_, rfl⟩
  rw [← ha] at h0 ⊢
  simp only at h0 ⊢
  obtain ⟨⟨dv, dp, de⟩, hd⟩ : ∃ y, y = wordR l ap ae := ⟨_, rfl⟩
  rw [← hd] at h0 ⊢
  simp only at h0 ⊢
  obtain ⟨⟨xv, xp, xe⟩, hx⟩ : ∃ y, y = textR l dp de 1024 := ⟨_, rfl⟩
  rw [← hx] at h0 ⊢
  simp only at h0 ⊢
  subst h0
  have posW : ∀ {l : List UInt8} {p q : Nat} {e f v : Int}, wordR l p e = (v, q, f) → p ≤ l.length → q ≤ l.length := fun {l p q e f v} h hp => by
    unfold wordR at h
    split at h
    · cases h; exact hp
    · split at h
      · cases h; exact hp
      · cases h; omega
  have posU : ∀ {l : List UInt8} {p q : Nat} {e f v : Int}, uintR l p e = (v, q, f) → p ≤ l.length → q ≤ l.length := fun {l p q e f v} h hp => by
    unfold uintR at h
    have := num_le (l.drop p)
    rw [List.length_drop] at this
    split at h
    · cases h; exact hp
    · split at h
      · cases h; omega
      · cases h; exact hp
  have posT : ∀ {l : List UInt8} {p q : Nat} {e f m : Int} {v : ByteArray}, textR l p e m = (v, q, f) → p ≤ l.length → q ≤ l.length := fun {l p q e f m v} h hp => by
    unfold textR at h
    have := (txt_bounds (l.drop p) m).2
    rw [List.length_drop] at this
    split at h
    · cases h; exact hp
    · split at h
      · cases h; omega
      · cases h; exact hp
  have posP : ∀ (n : Nat) (l : List UInt8) (p : Nat) (e : Int) (acc : List Int), p ≤ l.length → (parsR n l p e acc).2.1 ≤ l.length := by
    intro n
    induction n with
    | zero => intro l p e acc hp; exact hp
    | succ n ih =>
      intro l p e acc hp
      unfold parsR
      split
      · exact hp
      · exact ih _ _ _ _ (posW rfl hp)
  have l1 := posW ht.symm hp
  have l2 := posU hu.symm l1
  have l3 : qp ≤ l.length := by have := posP uv.toNat l up ue [] l2; rw [← hq] at this; exact this
  have l4 := posT ha.symm l3
  have l5 := posW hd.symm l4
  obtain ⟨rfl, a6, s6⟩ := text_at hx.symm l5
  obtain ⟨rfl, D, rfl, hD, a5⟩ := word_at hd.symm
  obtain ⟨rfl, a4, s4⟩ := text_at ha.symm l3
  have hq2 := pars_at uv.toNat l up ue [] (by rw [← hq]) l2
  rw [← hq] at hq2
  simp only at hq2
  obtain ⟨M, m1, m2, m3, a3, m4⟩ := hq2
  subst m3
  obtain ⟨rfl, X, rfl, hX, a2⟩ := uint_at hu.symm l1
  obtain ⟨_, Y, rfl, hY, a1⟩ := word_at ht.symm
  simp only [List.nil_append, Int.toNat_natCast] at m1 m2
  subst m1
  obtain ⟨w1, w2, w3⟩ := du_wrap D hD
  refine ⟨?_, ⟨by show (0 : Int) ≤ (Y : Int) ∧ (Y : Int) < _; omega, m4, by show qs.length < _; omega, by show av.size ≤ 64; omega, ⟨w2, w3⟩, by show xv.size ≤ 1024; omega⟩⟩
  have a0 : At l 0 [99] 1 := by
    cases l with
    | nil => simp at h1
    | cons c t => simp at h1; subst h1; exact ⟨by simp, rfl, by simp⟩
  have := (((((a0.trans a1).trans a2).trans a3).trans a4).trans a5).trans a6
  unfold comBB comB
  simp only
  rw [w1, m2]
  simpa using this
/-- back -/
theorem word_of {l r : List UInt8} {p X : Nat} (h : l.drop p = wide X ++ r) (hX : X < 18446744073709551616) (hp : p ≤ l.length) : wordR l p 0 = ((X : Int), p + 8, 0) := by
  have hl := congrArg List.length h
  rw [List.length_drop, List.length_append, wide_len] at hl
  unfold wordR
  rw [if_neg (by simp), if_neg (by omega), h, List.take_append_of_le_length (by rw [wide_len]; omega), List.take_of_length_le (by rw [wide_len]; omega)]
  have := wideVal_wide X [] 8 (by omega) (by omega)
  rw [List.append_nil] at this
  rw [this]
  simp
theorem uint_of {l r : List UInt8} {p X : Nat} (h : l.drop p = short X ++ r) (hX : X < 18446744073709551616) : uintR l p 0 = ((X : Int), p + (short X).length, 0) := by
  unfold uintR
  rw [if_neg (by simp), h, num_short_app X hX r, if_pos rfl]
theorem byte_of {l r : List UInt8} {p : Nat} {c : UInt8} (h : l.drop p = c :: r) : byteR l p 0 = ((c.toNat : Int), p + 1, 0) := by
  have hp : p < l.length := by
    have := congrArg List.length h
    rw [List.length_drop] at this
    simp at this
    omega
  unfold byteR
  rw [if_neg (by simp), if_pos hp]
  rw [List.drop_eq_getElem_cons hp] at h
  have h1 : l[p] = c := by cases h; rfl
  simp [bt, hp, h1]
theorem text_of {l r : List UInt8} {p : Nat} {m : Int} {s : ByteArray} (h : l.drop p = (short s.size ++ s.data.toList) ++ r) (hm : (s.size : Int) ≤ m) (hs : s.size < 18446744073709551616) : textR l p 0 m = (s, p + (short s.size ++ s.data.toList).length, 0) := by
  have hsl : s.data.toList.length = s.size := Array.length_toList
  rw [List.append_assoc] at h
  have hn := num_short_app s.size hs (s.data.toList ++ r)
  have ht := txt_ok (short s.size ++ (s.data.toList ++ r)) m (by omega) (by rw [hn]) (by rw [hn]; simp only; omega) (by rw [hn]; simp only [List.length_append]; omega)
  rw [hn] at ht
  simp only [Int.toNat_natCast] at ht
  unfold textR cutT
  rw [if_neg (by simp), h, ht, if_pos rfl]
  simp only
  have e : ((short s.size ++ (s.data.toList ++ r)).take ((short s.size).length + s.size)).drop (short s.size).length = s.data.toList := by
    rw [← List.append_assoc, List.take_append_of_le_length (by simp [hsl]), List.take_of_length_le (by simp [hsl]), List.drop_append]
    simp
  rw [e, List.length_append, hsl]
theorem ent_of {l r : List UInt8} {p : Nat} {x : Ent} (h : l.drop p = entB x ++ r) (ok : EntOk x) (hp : p ≤ l.length) : entR l p 0 = (some x, p + (entB x).length, 0) := by
  obtain ⟨nm, fo, id⟩ := x
  obtain ⟨o1, o2, o3⟩ := ok
  simp only at o1 o2 o3
  obtain ⟨X, rfl⟩ := Int.eq_ofNat_of_zero_le o2
  unfold entB at h ⊢
  simp only [Int.toNat_natCast] at h ⊢
  rw [List.append_assoc, List.append_assoc] at h
  have ht := text_of (m := 32) h (by omega) (by omega)
  obtain ⟨a1, h2⟩ := At.of h hp
  have hb := byte_of (c := if fo = true then 1 else 0) (by rw [h2]; rfl)
  have h3 : l.drop (p + (short nm.size ++ nm.data.toList).length + 1) = wide X ++ r := by rw [← List.drop_drop, h2]; rfl
  have hle : p + (short nm.size ++ nm.data.toList).length + 1 ≤ l.length := by
    have := congrArg List.length h2
    rw [List.length_drop] at this
    simp only [List.length_append, List.length_cons, List.length_nil] at this
    have := a1.le
    simp only [List.length_append] at this ⊢
    omega
  have hw := word_of h3 (by omega) hle
  unfold entR
  rw [ht]
  simp only
  rw [hb]
  simp only
  rw [hw]
  simp only
  rw [if_neg (by cases fo <;> simp)]
  have e1 : (((if fo = true then (1 : UInt8) else 0).toNat : Int) == 1) = fo := by cases fo <;> rfl
  rw [e1]
  simp only [List.length_append, List.length_cons, List.length_nil, wide_len, Prod.mk.injEq, and_true, true_and]
  omega
theorem ents_of : ∀ (M : List Ent) (l r : List UInt8) (p : Nat) (acc : List Ent), l.drop p = entsB M ++ r → (∀ x ∈ M, EntOk x) → p ≤ l.length → entsR M.length l p 0 acc = (some (acc ++ M), p + (entsB M).length, 0)
  | [], l, r, p, acc, h, _, hp => by simp [entsR, entsB]
  | x :: M, l, r, p, acc, h, ok, hp => by
    have h' : l.drop p = entB x ++ (entsB M ++ r) := by rw [h]; simp [entsB]
    have he := ent_of h' (ok x (by simp)) hp
    obtain ⟨a1, h2⟩ := At.of h' hp
    have ih := ents_of M l r (p + (entB x).length) (acc ++ [x]) h2 (fun y hy => ok y (by simp [hy])) a1.le
    rw [List.length_cons, entsR, he]
    simp only
    rw [ih]
    simp [entsB]
    omega
theorem tree_of {l r : List UInt8} {p : Nat} {R : List Ent} (h : l.drop p = (short R.length ++ entsB R) ++ r) (ok : ∀ x ∈ R, EntOk x) (hp : p ≤ l.length) (hR : R.length < 18446744073709551616) : treeR l p 0 = (some R, p + (short R.length ++ entsB R).length, 0) := by
  rw [List.append_assoc] at h
  have hu := uint_of h hR
  obtain ⟨a1, h2⟩ := At.of h hp
  have he := ents_of R l r _ [] h2 ok a1.le
  unfold treeR
  rw [hu]
  simp only [Int.toNat_natCast]
  rw [he]
  simp
  omega
theorem pars_of : ∀ (M : List Int) (l r : List UInt8) (p : Nat) (acc : List Int), l.drop p = parsB M ++ r → (∀ x ∈ M, 0 ≤ x ∧ x < 18446744073709551616) → p ≤ l.length → parsR M.length l p 0 acc = (acc ++ M, p + (parsB M).length, 0)
  | [], l, r, p, acc, h, _, hp => by simp [parsR, parsB]
  | x :: M, l, r, p, acc, h, ok, hp => by
    obtain ⟨o1, o2⟩ := ok x (by simp)
    obtain ⟨X, rfl⟩ := Int.eq_ofNat_of_zero_le o1
    have h' : l.drop p = wide X ++ (parsB M ++ r) := by rw [h]; simp [parsB]
    have he := word_of h' (by omega) hp
    obtain ⟨a1, h2⟩ := At.of h' hp
    rw [wide_len] at a1 h2
    have ih := pars_of M l r (p + 8) (acc ++ [(X : Int)]) h2 (fun y hy => ok y (by simp [hy])) a1.le
    rw [List.length_cons, parsR, if_neg (by simp), he]
    simp only
    rw [ih]
    simp [parsB, wide_len]
    omega
theorem com_of {l r : List UInt8} {c : ComD} (h : l = comBB c ++ r) (ok : ComOk c) : comR l 1 0 = (c, (comBB c).length, 0) := by
  obtain ⟨t, ps, au, d, tx⟩ := c
  obtain ⟨o1, o2, o3, o4, o5, o6⟩ := ok
  simp only at o1 o2 o3 o4 o5 o6
  obtain ⟨X, rfl⟩ := Int.eq_ofNat_of_zero_le o1.1
  have h1 : l.drop 1 = wide X ++ (short ps.length ++ (parsB ps ++ ((short au.size ++ au.data.toList) ++ (wide (du d) ++ ((short tx.size ++ tx.data.toList) ++ r))))) := by
    rw [h]; unfold comBB comB; simp
  have hp1 : 1 ≤ l.length := by rw [h]; unfold comBB comB; simp
  have e1 := word_of h1 (by omega) hp1
  obtain ⟨a1, h2⟩ := At.of h1 hp1
  rw [wide_len] at a1 h2
  have e2 := uint_of h2 o3
  obtain ⟨a2, h3⟩ := At.of h2 a1.le
  have e3 := pars_of ps l _ _ [] h3 o2 a2.le
  obtain ⟨a3, h4⟩ := At.of h3 a2.le
  have e4 := text_of (m := 64) h4 (by omega) (by omega)
  obtain ⟨a4, h5⟩ := At.of h4 a3.le
  have e5 := word_of h5 (du_eq d).2 a4.le
  obtain ⟨a5, h6⟩ := At.of h5 a4.le
  rw [wide_len] at a5 h6
  have e6 := text_of (m := 1024) h6 (by omega) (by omega)
  unfold comR
  simp only
  rw [e1]
  simp only
  rw [e2]
  simp only [Int.toNat_natCast]
  rw [e3]
  simp only
  rw [e4]
  simp only
  rw [e5]
  simp only
  rw [e6, wrap_du d o5]
  simp only [List.nil_append, Prod.mk.injEq, and_true, true_and]
  unfold comBB comB
  simp only [List.length_append, List.length_cons, List.length_nil, wide_len]
/-- an object's bytes, and what holds of what is read -/
def obB : Ob → List UInt8
  | .blob b => 98 :: b
  | .tree l => treeB l
  | .com c => comBB c
def ObOk : Ob → Prop
  | .blob _ => True
  | .tree l => (∀ x ∈ l, EntOk x) ∧ l.length < 18446744073709551616
  | .com c => ComOk c
theorem head_byte (l : List UInt8) (c : UInt8) (h : (byteR l 0 0).1 = (c.toNat : Int)) (hc : c ≠ 0) : l.head? = some c := by
  have hne : (byteR l 0 0).1 ≠ 0 := by rw [h]; intro e; exact hc (UInt8.toNat_inj.1 (by simp; omega))
  obtain ⟨_, hl⟩ := byte_head hne
  cases l with
  | nil => simp at hl
  | cons x t =>
    unfold byteR at h
    rw [if_neg (by simp), if_pos (by simp)] at h
    simp [bt] at h
    simp
    exact UInt8.toNat_inj.1 (by omega)
theorem decR_bytes {l : List UInt8} {o : Ob} (h : decR l = some o) (hl : l.length ≤ 549755813888) : obB o = l ∧ ObOk o := by
  unfold decR at h
  by_cases h1 : (byteR l 0 0).1 = 98
  · rw [if_pos h1] at h
    cases h
    have hh := head_byte l 98 h1 (by decide)
    cases l with
    | nil => simp at hh
    | cons x t => simp at hh; subst hh; exact ⟨rfl, trivial⟩
  · rw [if_neg h1] at h
    by_cases h2 : (byteR l 0 0).1 = 116
    · rw [if_pos h2] at h
      have hh := head_byte l 116 h2 (by decide)
      have hl1 : 1 ≤ l.length := by cases l with | nil => simp at hh | cons x t => simp
      cases ht : (treeR l 1 0).1 with
      | none => rw [ht] at h; simp at h
      | some R =>
        rw [ht] at h
        simp only at h
        by_cases hq : (treeR l 1 0).2.2 = 0 ∧ (treeR l 1 0).2.1 = l.length
        · rw [if_pos hq] at h
          cases h
          obtain ⟨a, ok⟩ := tree_rd ht hq.1 hl1
          have a0 : At l 0 [116] 1 := by
            cases l with
            | nil => simp at hh
            | cons c t => simp at hh; subst hh; exact ⟨by simp, rfl, by simp⟩
          have a2 := a0.trans a
          have e := a2.eq
          rw [hq.2, List.drop_length, List.append_nil, List.drop_zero] at e
          refine ⟨by rw [e]; rfl, ok, ?_⟩
          have hlen := congrArg List.length e
          have : R.length ≤ (entsB R).length := by
            clear e hlen a2 a0 a ht hq
            induction R with
            | nil => simp
            | cons x R ih =>
              have := ih (fun y hy => ok y (by simp [hy]))
              simp only [entsB, List.map_cons, List.flatten_cons, List.length_append, List.length_cons] at this ⊢
              have : 8 ≤ (entB x).length := by simp [entB, wide_len]; omega
              omega
          simp only [List.length_append, List.length_cons] at hlen
          omega
        · rw [if_neg hq] at h; cases h
    · rw [if_neg h2] at h
      by_cases h3 : (byteR l 0 0).1 = 99
      · rw [if_pos h3] at h
        have hh := head_byte l 99 h3 (by decide)
        have hl1 : 1 ≤ l.length := by cases l with | nil => simp at hh | cons x t => simp
        by_cases hq : (comR l 1 0).2.2 = 0 ∧ (comR l 1 0).2.1 = l.length
        · rw [if_pos hq] at h
          cases h
          obtain ⟨a, ok⟩ := com_rd hq.1 hl1 hh
          have e := a.eq
          rw [hq.2, List.drop_length, List.append_nil, List.drop_zero] at e
          exact ⟨e.symm, ok⟩
        · rw [if_neg hq] at h; cases h
      · rw [if_neg h3] at h; cases h
theorem byte_cons (c : UInt8) (t : List UInt8) : (byteR (c :: t) 0 0).1 = (c.toNat : Int) := by
  have := byte_of (l := c :: t) (p := 0) (c := c) (r := t) rfl
  rw [this]
theorem decR_obB (o : Ob) (ok : ObOk o) (r : List UInt8) : decR (obB o ++ r) = match o with
    | .blob b => some (.blob (b ++ r))
    | .tree l => if r = [] then some (.tree l) else none
    | .com c => if r = [] then some (.com c) else none := by
  cases o with
  | blob b =>
    show decR (98 :: (b ++ r)) = _
    unfold decR
    rw [byte_cons, if_pos (by decide)]
    rfl
  | tree l =>
    have hd : (obB (.tree l) ++ r).drop 1 = (short l.length ++ entsB l) ++ r := rfl
    have ht := tree_of hd ok.1 (by simp [obB, treeB]) ok.2
    have hb : (byteR (obB (.tree l) ++ r) 0 0).1 = 116 := byte_cons 116 _
    unfold decR
    rw [hb, if_neg (by decide), if_pos rfl, ht]
    simp only
    by_cases hr : r = []
    · subst hr
      rw [if_pos rfl, if_pos ⟨trivial, by simp [obB, treeB]; omega⟩]
    · rw [if_neg hr, if_neg]
      rintro ⟨_, hx⟩
      apply hr
      apply List.eq_nil_of_length_eq_zero
      simp [obB, treeB] at hx
      omega
  | com c =>
    have ht := com_of (l := obB (.com c) ++ r) rfl ok
    have hb : (byteR (obB (.com c) ++ r) 0 0).1 = 99 := by
      have : obB (.com c) ++ r = 99 :: (obB (.com c) ++ r).drop 1 := by simp [obB, comBB, comB]
      rw [this]
      exact byte_cons 99 _
    unfold decR
    rw [hb, if_neg (by decide), if_neg (by decide), if_pos rfl, ht]
    simp only
    by_cases hr : r = []
    · subst hr
      rw [if_pos rfl, if_pos ⟨trivial, by simp [obB]⟩]
    · rw [if_neg hr, if_neg]
      rintro ⟨_, hx⟩
      apply hr
      apply List.eq_nil_of_length_eq_zero
      simp [obB] at hx
      exact List.length_eq_zero_iff.2 hx
end Go.Proofs.Ytdibdcbihleflab

/- What Decode answers, for all bytes; what the layer answers of what it read. -/
namespace Go.Proofs.Ytdibdcbihleflab
open Go.RowKit

attribute [local go_sem] Oper.semAt_some

def obErr : Ob → Int
  | .blob b => blobErr b.length
  | .tree l => treeErrs l
  | .com c => comErr c.1 c.2.1 c.2.2.1 c.2.2.2.2
/-- how an object lies in memory -/
def ObAt : Ob → Value → World → Prop
  | .blob b, v, W => ∃ ad cp, v = .iface 31 (.agg #[.slice ad b.length cp]) ∧ Bytes W ad b.length b ∧ (ad = none → b.length = 0 ∧ cp = 0) ∧ b.length ≤ 9223372036854775807
  | .tree l, v, W => ∃ ad cp, v = trV ad l.length cp ∧ Ents W ad l.length l ∧ Fields l ∧ l.length ≤ 9223372036854775807
  | .com c, v, W => ∃ ad cp, v = coV c.1 ad c.2.1.length cp c.2.2.1 c.2.2.2.1 c.2.2.2.2 ∧ Com W c.1 ad c.2.1.length cp c.2.1 c.2.2.1 c.2.2.2.1 c.2.2.2.2
theorem ObAt.below {o : Ob} {v : Value} {W W' : World} (h : ObAt o v W) (hB : Below W.heap.size W W') : ObAt o v W' := by
  cases o with
  | blob b => obtain ⟨ad, cp, h1, h2, h3⟩ := h; exact ⟨ad, cp, h1, bytes_below h2 hB, h3⟩
  | tree l => obtain ⟨ad, cp, h1, h2, h3⟩ := h; exact ⟨ad, cp, h1, h2.below hB, h3⟩
  | com c => obtain ⟨ad, cp, h1, h2⟩ := h; exact ⟨ad, cp, h1, h2.below hB⟩
theorem fields_ok {l : List Ent} (h : ∀ x ∈ l, EntOk x) : Fields l := by
  refine ⟨fun j x hx => ?_, fun j x hx => ?_⟩
  · have := (h x (List.mem_of_getElem? hx)).1
    unfold maxLen
    omega
  · exact (h x (List.mem_of_getElem? hx)).2
theorem dec_at {w w' : World} {o : Ob} {x : Ending} (h : DecOut w (some o) x w') (ok : ObOk o) (hs : (obB o).length ≤ 549755813888) : ∃ v, x = .returned v ∧ ObAt o v w' := by
  cases o with
  | blob b =>
    obtain ⟨ad, cp, rfl, hb⟩ := h
    simp only [obB, List.length_cons] at hs
    exact ⟨_, rfl, some ad, cp, rfl, hb, (fun e => by cases e), by omega⟩
  | tree l =>
    obtain ⟨ad, cp, rfl, hb⟩ := h
    refine ⟨_, rfl, ad, cp, rfl, own_ents hb rfl, fields_ok ok.1, ?_⟩
    have : l.length ≤ (entsB l).length := by
      clear hb hs
      have ok1 := ok.1
      clear ok
      induction l with
      | nil => simp
      | cons x R ih =>
        have := ih (fun y hy => ok1 y (by simp [hy]))
        simp only [entsB, List.map_cons, List.flatten_cons, List.length_append, List.length_cons] at this ⊢
        have : 8 ≤ (entB x).length := by simp [entB, wide_len]; omega
        omega
    simp only [obB, treeB, List.length_cons, List.length_append] at hs
    omega
  | com c =>
    obtain ⟨ad, cp, rfl, hb⟩ := h
    obtain ⟨ad', c', e, hc1, hc2⟩ := row_shape hb
    cases e
    obtain ⟨ad', c', e, hI⟩ := own_ids hb
    cases e
    have h1 := ok.au
    have h2 := ok.tx
    refine ⟨_, rfl, ad, cp, rfl, ⟨ok.tree, hI, ok.pars, ⟨hc1, ?_, hc2⟩, by unfold maxLen; omega, ok.date, by unfold maxLen; omega⟩⟩
    have := parsB_len c.2.1 c.2.1.length (Nat.le_refl _)
    rw [List.take_length] at this
    simp only [obB, comBB, comB, List.length_append] at hs
    omega
theorem check_ob {o : Ob} {v : Value} (W : World) (h : ObAt o v W) : Calls Try.prog 19 #[v] W fun e w' => e = .returned (.int .i64 (obErr o)) ∧ Below W.heap.size W w' := by
  cases o with
  | blob b => obtain ⟨ad, cp, rfl, h2, h3⟩ := h; exact check_blob _ _ _ W
  | tree l => obtain ⟨ad, cp, rfl, h2, h3, h4⟩ := h; exact check_tree _ _ _ l W h2 h3.name h4
  | com c => obtain ⟨ad, cp, rfl, h2⟩ := h; exact check_com _ _ _ _ _ _ _ _ W h2
theorem Encode_ob {o : Ob} {v : Value} (W : World) (h : ObAt o v W) (h0 : obErr o = 0) : Calls Try.prog 8 #[v] W fun e w' => ∃ ad cp, e = .returned (.tuple #[.slice ad (obB o).length cp, .int .i64 0]) ∧ Bytes w' ad (obB o).length (obB o) ∧ Below W.heap.size W w' := by
  cases o with
  | blob b =>
    obtain ⟨ad, cp, rfl, h2, h3, h4⟩ := h
    have hb : b.length ≤ 4096 := by
      have h0' : blobErr b.length = 0 := h0
      unfold blobErr at h0'
      split at h0'
      · omega
      · omega
    refine (Encode_blob ad _ cp b W h2 h3 hb).mono fun e w' hx => ?_
    obtain ⟨v, rfl, ho, hB⟩ := hx
    have ho' : OwnB W.heap.size (98 :: b) v w' := ⟨ho⟩
    obtain ⟨a', c', rfl, _⟩ := ho'.shape rfl
    exact ⟨a', c', rfl, ho'.bytes rfl, hB⟩
  | tree l =>
    obtain ⟨ad, cp, rfl, h2, h3, h4⟩ := h
    refine (Encode_tree ad _ cp l W h2 h3 h4 h0).mono fun e w' hx => ?_
    obtain ⟨v, rfl, ho', hB⟩ := hx
    obtain ⟨a', c', rfl, _⟩ := ho'.shape rfl
    exact ⟨a', c', rfl, ho'.bytes rfl, hB⟩
  | com c =>
    obtain ⟨ad, cp, rfl, h2⟩ := h
    refine (Encode_com _ _ _ _ _ _ _ _ W h2 h0).mono fun e w' hx => ?_
    obtain ⟨v, rfl, ho', hB⟩ := hx
    obtain ⟨a', c', rfl, _⟩ := ho'.shape rfl
    exact ⟨a', c', rfl, ho'.bytes rfl, hB⟩
def obK : Ob → Int
  | .blob _ => 1
  | .tree _ => 2
  | .com _ => 3
theorem Kind_ob {o : Ob} {v : Value} (W : World) (h : ObAt o v W) : Calls Try.prog 13 #[v] W fun e w' => e = .returned (.int .i64 (obK o)) ∧ w' = W := by
  cases o with
  | blob b => obtain ⟨ad, cp, rfl, _⟩ := h; exact Kind_blob _ W
  | tree l => obtain ⟨ad, cp, rfl, _⟩ := h; exact kind_tree _ W
  | com c => obtain ⟨ad, cp, rfl, _⟩ := h; exact Kind_com _ W
theorem encode_ob {o : Ob} {v : Value} (W : World) (h : ObAt o v W) (h0 : obErr o = 0) : Calls Try.prog 20 #[v] W fun e w' => ∃ ad cp, e = .returned (.slice ad (obB o).length cp) ∧ Bytes w' ad (obB o).length (obB o) ∧ Below W.heap.size W w' := by
  cases o with
  | blob b =>
    obtain ⟨ad, cp, rfl, h2, h3, h4⟩ := h
    have hb : b.length ≤ 4096 := by
      have h0' : blobErr b.length = 0 := h0
      unfold blobErr at h0'
      split at h0'
      · omega
      · omega
    refine (encode_blob ad _ cp b W h2 h3 (by omega)).mono fun e w' hx => ?_
    obtain ⟨v, rfl, ho, hB⟩ := hx
    have ho' : OwnB W.heap.size (98 :: b) v w' := ⟨ho⟩
    obtain ⟨a', c', rfl, _⟩ := ho'.shape rfl
    exact ⟨a', c', rfl, ho'.bytes rfl, hB⟩
  | tree l =>
    obtain ⟨ad, cp, rfl, h2, h3, h4⟩ := h
    obtain ⟨f1, f2⟩ := fits_of h3 h0
    refine (encode_tree ad _ cp l W h2 f2 f1).mono fun e w' hx => ?_
    obtain ⟨a', m, c', rfl, hm, ho', hB⟩ := hx
    subst hm
    exact ⟨a', c', rfl, ho'.bytes rfl, hB⟩
  | com c =>
    obtain ⟨ad, cp, rfl, h2⟩ := h
    refine (encode_com _ _ _ _ _ _ _ _ W h2 h0).mono fun e w' hx => ?_
    obtain ⟨a', m, c', rfl, hm, ho', hB⟩ := hx
    subst hm
    exact ⟨a', c', rfl, ho'.bytes rfl, hB⟩
theorem Same_ob {o o' : Ob} {v v' : Value} (W : World) (h : ObAt o v W) (h' : ObAt o' v' W) (h0 : obErr o = 0) (h0' : obErr o' = 0) :
    Calls Try.prog 14 #[v, v'] W fun e w' => e = .returned (.bool (decide (obB o = obB o'))) ∧ Below W.heap.size W w' := by
  have c1 := check_ob W h
  rw [h0] at c1
  have c2 := fun X hB => check_ob X (h'.below (W' := X) hB)
  rw [h0'] at c2
  have e1 := fun X hB => encode_ob X (h.below (W' := X) hB) h0
  have e2 := fun X hB => encode_ob X (h'.below (W' := X) hB) h0'
  generalize obB o = TA at *
  generalize obB o' = TB at *
  go_enter Try.func14, Try.ntmps14
  go_wp2_with first
    | (go_at_call 19; refine c1.mono ?_; clear c1; rintro e w1 ⟨rfl, hB1⟩)
    | (go_at_call 19; refine (c2 _ hB1).mono ?_; clear c2; rintro e w2 ⟨rfl, hB2⟩; have hB : Below W.heap.size W w2 := hB1.trans (hB2.mono hB1.size); clear hB1 hB2)
    | (go_at_call 20; refine (e1 _ hB).mono ?_; clear e1; rintro e w3 ⟨ad, cp, rfl, hy3, hB3⟩; have hBB : Below W.heap.size W w3 := hB.trans (hB3.mono hB.size); clear hB hB3)
    | (go_at_call 20; refine (e2 _ hBB).mono ?_; clear e2; rintro e w4 ⟨ad4, cp4, rfl, hy4, hB4⟩; have hy3' := bytes_below hy3 hB4; clear hy3)
    | (go_at_call 12; refine (equal_any _ ad ad4 _ _ cp cp4 TA TB hy3' hy4).mono ?_; rintro e w5 ⟨rfl, h5⟩; subst h5)
  go_ret
  exact ⟨rfl, hBB.trans (hB4.mono hBB.size)⟩
/-- what Decode answers -/
def decG (l : List UInt8) : Option Ob := (decR l).bind fun o => if obErr o = 0 then some o else none
def GotO : Option Ob → Ending → World → Prop
  | none, x, _ => x = .returned (.tuple #[.nilIface, .int .i64 8])
  | some o, x, W => ∃ v, x = .returned (.tuple #[v, .int .i64 0]) ∧ ObAt o v W
theorem Decode_any (a : Option Addr) (n cap : Nat) (l : List UInt8) (w : World) (hb : Bytes w a n l) (hn : n ≤ 549755813888) :
    Calls Try.prog 10 #[.slice a n cap] w fun x w' => GotO (decG l) x w' ∧ Below w.heap.size w w' := by
  have hd := decode_any a n cap l w hb hn
  have hll := hb.1
  unfold decG
  cases hr : decR l with
  | none =>
    rw [hr] at hd
    have hd' : Calls Try.prog 21 #[.slice a n cap] w fun x w' => x = .returned .nilIface ∧ Below w.heap.size w w' := hd
    simp only [Option.bind_none]
    clear hd hr
    go_enter Try.func10, Try.ntmps10
    go_wp2_with first
      | (go_at_call 21; refine hd'.mono ?_; clear hd'; rintro y w1 ⟨rfl, hB1⟩)
      | (go_at_call 19; refine (ocheck_odd _ odd_nil _).mono ?_; rintro y w2 ⟨rfl, hw2⟩; subst hw2)
    go_ret2
    exact ⟨rfl, hB1⟩
  | some o =>
    rw [hr] at hd
    obtain ⟨hob, ok⟩ := decR_bytes hr (by omega)
    have hd' : Calls Try.prog 21 #[.slice a n cap] w fun x w' => ∃ v, x = .returned v ∧ ObAt o v w' ∧ Below w.heap.size w w' := hd.mono fun x w' hx => by
      obtain ⟨v, h1, h2⟩ := dec_at hx.1 ok (by rw [hob]; omega)
      exact ⟨v, h1, h2, hx.2⟩
    simp only [Option.bind_some]
    have HK : Hid (∀ W v, ObAt o v W → Calls Try.prog 19 #[v] W fun e w' => e = .returned (.int .i64 (obErr o)) ∧ Below W.heap.size W w') := fun W v h => check_ob W h
    generalize obErr o = E at HK ⊢
    clear hd hr hob ok
    by_cases hE : E = 0
    · subst hE
      rw [if_pos rfl]
      go_enter Try.func10, Try.ntmps10
      go_wp2_with first
        | (go_at_call 21; refine hd'.mono ?_; clear hd'; rintro y w1 ⟨v, rfl, hO1, hB1⟩)
        | (go_at_call 19; refine (HK.out _ _ hO1).mono ?_; rintro y w2 ⟨rfl, hB2⟩)
      go_ret2
      exact ⟨⟨v, rfl, hO1.below hB2⟩, hB1.trans (hB2.mono hB1.size)⟩
    · rw [if_neg hE]
      have e1 : (E == 0) = false := by simp [hE]
      have e2 : (E != 0) = true := by simp [hE]
      go_enter Try.func10, Try.ntmps10
      go_wp2_with first
        | (go_at_call 21; refine hd'.mono ?_; clear hd'; rintro y w1 ⟨v, rfl, hO1, hB1⟩)
        | (go_at_call 19; refine (HK.out _ _ hO1).mono ?_; rintro y w2 ⟨rfl, hB2⟩)
      go_ret2
      exact ⟨rfl, hB1.trans (hB2.mono hB1.size)⟩
theorem decG_some {l : List UInt8} {o : Ob} (h : decG l = some o) (hl : l.length ≤ 549755813888) : decR l = some o ∧ obErr o = 0 ∧ obB o = l ∧ ObOk o := by
  unfold decG at h
  cases hr : decR l with
  | none => rw [hr] at h; cases h
  | some p =>
    rw [hr, Option.bind_some] at h
    by_cases h0 : obErr p = 0
    · rw [if_pos h0] at h
      cases h
      obtain ⟨h1, h2⟩ := decR_bytes hr hl
      exact ⟨rfl, h0, h1, h2⟩
    · rw [if_neg h0] at h; cases h
def isBlob : Ob → Bool
  | .blob _ => true
  | _ => false
theorem longer_none {l : List UInt8} {o : Ob} (h : decR l = some o) (hl : l.length ≤ 549755813888) (hb : isBlob o = false) (x : UInt8) : decR (l ++ [x]) = none := by
  obtain ⟨h1, h2⟩ := decR_bytes h hl
  rw [← h1, decR_obB o h2 [x]]
  cases o with
  | blob b => cases hb
  | tree l => simp
  | com c => simp
theorem decG_none {l : List UInt8} (h : decR l = none) : decG l = none := by unfold decG; rw [h]; rfl
theorem obB_head (o : Ob) : (obB o).head? = some (match o with | .blob _ => 98 | .tree _ => 116 | .com _ => 99) := by
  cases o with
  | blob b => rfl
  | tree l => rfl
  | com c => simp [obB, comBB, comB]
theorem obB_two {o : Ob} (h : isBlob o = false) : 2 ≤ (obB o).length := by
  cases o with
  | blob b => cases h
  | tree l => have := shortF_pos 9 l.length; simp only [obB, treeB, List.length_cons, List.length_append, short]; omega
  | com c => simp only [obB, comBB, comB, List.length_append, wide_len, List.length_cons]; omega
theorem shorter_none {l : List UInt8} {o : Ob} (h : decR l = some o) (hl : l.length ≤ 549755813888) (hb : isBlob o = false) : decR (l.take (l.length - 1)) = none := by
  cases hr : decR (l.take (l.length - 1)) with
  | none => rfl
  | some o' =>
    exfalso
    obtain ⟨h1, h2⟩ := decR_bytes h hl
    obtain ⟨g1, g2⟩ := decR_bytes hr (by rw [List.length_take]; omega)
    have h3 := obB_two hb
    rw [h1] at h3
    have hh : (l.take (l.length - 1)).head? = l.head? := by
      cases l with
      | nil => simp at h3
      | cons c t =>
        cases t with
        | nil => simp at h3
        | cons d t => simp
    have k1 := obB_head o
    have k2 := obB_head o'
    rw [h1] at k1
    rw [g1, hh, k1] at k2
    have hb' : isBlob o' = false := by
      cases o' with
      | blob b => cases o <;> simp at k2; cases hb
      | tree _ => rfl
      | com _ => rfl
    have hx := longer_none hr (by rw [List.length_take]; omega) hb' (l[l.length - 1]'(by omega))
    have e : l.take (l.length - 1) ++ [l[l.length - 1]'(by omega)] = l := by
      have := List.take_append_getElem (l := l) (i := l.length - 1) (by omega)
      rw [show l.length - 1 + 1 = l.length by omega, List.take_length] at this
      exact this
    rw [e, h] at hx
    cases hx
end Go.Proofs.Ytdibdcbihleflab

/- What the calls of the layer answer of an object and of the one that is read from its bytes. -/
namespace Go.Proofs.Ytdibdcbihleflab
open Go.RowKit

attribute [local go_sem] Oper.semAt_some

theorem Check_ob {o : Ob} {v : Value} (W : World) (h : ObAt o v W) : Calls Try.prog 9 #[v] W fun e w' => e = .returned (.int .i64 (obErr o)) ∧ Below W.heap.size W w' := by
  cases o with
  | blob b => obtain ⟨ad, cp, rfl, h2, h3⟩ := h; exact Check_blob _ _ _ W
  | tree l => obtain ⟨ad, cp, rfl, h2, h3, h4⟩ := h; exact Check_tree _ _ _ l W h2 h3.name h4
  | com c => obtain ⟨ad, cp, rfl, h2⟩ := h; exact Check_com _ _ _ _ _ _ _ _ W h2
theorem Encode_bad {o : Ob} {v : Value} (W : World) (h : ObAt o v W) (h0 : obErr o ≠ 0) : Calls Try.prog 8 #[v] W fun e w' => e = .returned (.tuple #[.slice none 0 0, .int .i64 (obErr o)]) ∧ Below W.heap.size W w' := by
  have c1 := check_ob W h
  have e1 : (obErr o == 0) = false := by simp [h0]
  have e2 : (obErr o != 0) = true := by simp [h0]
  generalize obErr o = E at *
  go_enter Try.func8, Try.ntmps8
  go_wp2_with (go_at_call 19; refine c1.mono ?_; clear c1; rintro e w1 ⟨rfl, hB1⟩)
  go_ret2
  exact ⟨rfl, hB1⟩
theorem Of_ob {o : Ob} {v : Value} (W : World) (h : ObAt o v W) (h0 : obErr o = 0) : Calls Try.prog 11 #[v] W fun e w' => e = .returned (.tuple #[.int .u64 (idOf (obB o)), .int .i64 0]) ∧ Below W.heap.size W w' := by
  cases o with
  | blob b =>
    obtain ⟨ad, cp, rfl, h2, h3, h4⟩ := h
    have hb : b.length ≤ 4096 := by
      have h0' : blobErr b.length = 0 := h0
      unfold blobErr at h0'
      split at h0'
      · omega
      · omega
    exact Of_blob ad _ cp b W h2 h3 hb
  | tree l => obtain ⟨ad, cp, rfl, h2, h3, h4⟩ := h; exact Of_tree ad _ cp l W h2 h3 h4 h0
  | com c => obtain ⟨ad, cp, rfl, h2⟩ := h; exact Of_com _ _ _ _ _ _ _ _ W h2 h0
theorem ob_small {o : Ob} {v : Value} {W : World} (h : ObAt o v W) (h0 : obErr o = 0) : (obB o).length ≤ 16384 ∧ ObOk o := by
  cases o with
  | blob b =>
    have h0' : blobErr b.length = 0 := h0
    unfold blobErr at h0'
    split at h0'
    · omega
    · exact ⟨by simp only [obB, List.length_cons]; omega, trivial⟩
  | tree l =>
    obtain ⟨ad, cp, _, h2, h3, h4⟩ := h
    obtain ⟨f1, f2⟩ := fits_of h3 h0
    have h1 := entsB_len l f2 l.length (Nat.le_refl _)
    rw [List.take_length] at h1
    have h5 := short_len l.length
    refine ⟨by simp only [obB, treeB, List.length_cons, List.length_append]; omega, fun x hx => ?_, by omega⟩
    obtain ⟨j, hj⟩ := List.mem_iff_getElem?.1 hx
    exact ⟨f2.name j x hj, f2.id j x hj⟩
  | com c =>
    obtain ⟨ad, cp, _, h2⟩ := h
    obtain ⟨f0, f1, f2, f3⟩ := com_fits h0
    exact ⟨comB_len _ h0, ⟨h2.tree, h2.pars, by omega, f2, h2.date, f3⟩⟩
/-- all that is asked of an object -/
structure BB (o : Ob) (v : Value) (E K ID : Int) (T : List UInt8) (k : Nat) : Prop where
  ck : ∀ W, ObAt o v W → Calls Try.prog 9 #[v] W fun e w' => e = .returned (.int .i64 E) ∧ Below W.heap.size W w'
  en : E = 0 → ∀ W v', ObAt o v' W → Calls Try.prog 8 #[v'] W fun e w' => ∃ ad cp, e = .returned (.tuple #[.slice ad k cp, .int .i64 0]) ∧ Bytes w' ad k T ∧ Below W.heap.size W w'
  eb : E ≠ 0 → ∀ W, ObAt o v W → Calls Try.prog 8 #[v] W fun e w' => e = .returned (.tuple #[.slice none 0 0, .int .i64 E]) ∧ Below W.heap.size W w'
  of : E = 0 → ∀ W, ObAt o v W → Calls Try.prog 11 #[v] W fun e w' => e = .returned (.tuple #[.int .u64 ID, .int .i64 0]) ∧ Below W.heap.size W w'
  kd : ∀ W v', ObAt o v' W → Calls Try.prog 13 #[v'] W fun e w' => e = .returned (.int .i64 K) ∧ w' = W
  sm : E = 0 → ∀ W v', ObAt o v W → ObAt o v' W → Calls Try.prog 14 #[v, v'] W fun e w' => e = .returned (.bool true) ∧ Below W.heap.size W w'
  id : E = 0 → ∀ W xa xc, Bytes W xa k T → Calls Try.prog 15 #[.slice xa k xc] W fun e w' => e = .returned (.int .u64 ID) ∧ w' = W
  dc : E = 0 → ∀ W xa xc, Bytes W xa k T → Calls Try.prog 10 #[.slice xa k xc] W fun e w' => (∃ v', e = .returned (.tuple #[v', .int .i64 0]) ∧ ObAt o v' w') ∧ Below W.heap.size W w'
theorem bb_any {o : Ob} {v : Value} {W0 : World} (h : ObAt o v W0) : BB o v (obErr o) (obK o) (idOf (obB o)) (obB o) (obB o).length := by
  refine ⟨fun W h => Check_ob W h, fun h0 W v' h' => Encode_ob W h' h0, fun h0 W h' => Encode_bad W h' h0, fun h0 W h' => Of_ob W h' h0, fun W v' h' => Kind_ob W h', fun h0 W v' h1 h2 => ?_, fun h0 W xa xc hb => ?_, fun h0 W xa xc hb => ?_⟩
  · refine (Same_ob W h1 h2 h0 h0).mono fun e w' hx => ⟨?_, hx.2⟩
    rw [hx.1]
    simp
  · have := (ob_small h h0).1
    exact Id_any xa _ xc _ W hb (by unfold maxLen; omega)
  · obtain ⟨hs, ok⟩ := ob_small h h0
    have hd : decG (obB o) = some o := by
      have := decR_obB o ok []
      rw [List.append_nil] at this
      unfold decG
      rw [this]
      cases o <;> simp [h0]
    have := Decode_any xa _ xc (obB o) W hb (by omega)
    rw [hd] at this
    exact this
end Go.Proofs.Ytdibdcbihleflab

/- The walk of the law ObjectBack. -/
namespace Go.Proofs.Ytdibdcbihleflab
open Go.RowKit

attribute [local go_sem] Oper.semAt_some

theorem run_minR (ty : TypeId) (n k : Nat) (w : World) : (Builtin.min_ #[3, 3] ty #[.int .i64 (n : Int), .int .i64 (k : Int)]).run Try.prog w = .ok (.int .i64 ((min n k : Nat) : Int)) w := by
  have hm : (min n k : Nat) = if k < n then k else n := by split <;> omega
  rw [hm]
  by_cases hkn : k < n
  · have i1 : (k : Int) < (n : Int) := by omega
    rw [if_pos hkn]
    simp [Builtin.min_, Builtin.min2, go_sem, i1]
  · have i1 : ¬ (k : Int) < (n : Int) := by omega
    rw [if_neg hkn]
    simp [Builtin.min_, Builtin.min2, go_sem, i1]
theorem wpList_minR (w : World) {ops : Array Oper} {rest : List Oper} {o : Oper} {a : Act} {Q : Exit → Act → World → Prop} (hgd : o.guard = none) (x y : Operand)
    (ho : o.op = .call { callee := .builtin .min, args := #[x, y], argTypes := #[3, 3] }) (n k : Nat) (K : Int) (hx : a.eval x = .int .i64 (n : Int)) (hy : a.eval y = .int .i64 K) (hk : K = (k : Int))
    (h : wpList Try.prog ops Q rest (a.put o.dst (.int .i64 ((min n k : Nat) : Int))) w) : wpList Try.prog ops Q (o :: rest) a w := by
  refine wpList_plain hgd fun K hK => ?_
  subst hk
  unfold Oper.wp execOp
  simp only [ho, resolve, invoke, builtin, Sem.run_bind, Sem.run_pure, Result.andThen_ok, List.map_toArray, List.map_cons, List.map_nil, hx, hy, run_minR]
  exact hK _ _ h


theorem Ents.takeR {w : World} {a : Option Addr} {n : Nat} {l : List Ent} (h : Ents w a n l) (m : Nat) (hm : m ≤ n) : Ents w a m (l.take m) := by
  refine ⟨by simp [h.1]; omega, fun h0 => ?_⟩
  obtain ⟨b, off, e, hc⟩ := h.2 (by omega)
  refine ⟨b, off, e, fun j x hx => hc j x ?_⟩
  rw [List.getElem?_take] at hx
  split at hx
  · exact hx
  · cases hx
theorem Fields.takeR {l : List Ent} (h : Fields l) (m : Nat) : Fields (l.take m) := by
  have up : ∀ (j : Nat) x, (l.take m)[j]? = some x → l[j]? = some x := fun j x hx => by
    rw [List.getElem?_take] at hx
    split at hx
    · exact hx
    · cases hx
  exact ⟨fun j x hx => h.name j x (up j x hx), fun j x hx => h.id j x (up j x hx)⟩
/-- the three objects that came in -/
structure BK (w : World) (a : Option Addr) (n c : Nat) (b : List UInt8) (la : Option Addr) (m lc : Nat) (L : List Ent) (t : Int) (pa : Option Addr) (pn pc : Nat) (ps : List Int) (au : ByteArray) (d : Int) (tx : ByteArray) (W : World) : Prop where
  o0 : ObAt (.blob b) (.iface 31 (.agg #[.slice a n c])) W
  o1 : ObAt (.tree L) (trV la m lc) W
  o2 : ObAt (.com (t, ps, au, d, tx)) (coV t pa pn pc au d tx) W
  bb : Bytes W a n b
  ee : Ents W la m L
  pp : Ids W pa pn ps
  box : Box5 W w.heap.size (.int .u64 t) (.slice pa pn pc) (.string au) (.int .i64 d) (.string tx)
  bel : Below w.heap.size w W
section
variable {w : World} {a : Option Addr} {n c : Nat} {b : List UInt8} {la : Option Addr} {m lc : Nat} {L : List Ent} {t : Int} {pa : Option Addr} {pn pc : Nat} {ps : List Int} {au : ByteArray} {d : Int} {tx : ByteArray} {W W' : World}
theorem BK.below (h : BK w a n c b la m lc L t pa pn pc ps au d tx W) (hB : Below W.heap.size W W') : BK w a n c b la m lc L t pa pn pc ps au d tx W' :=
  ⟨h.o0.below hB, h.o1.below hB, h.o2.below hB, bytes_below h.bb hB, h.ee.below hB, h.pp.below hB, h.box.kept hB, h.bel.trans (hB.mono h.bel.size)⟩
theorem BK.alloc (h : BK w a n c b la m lc L t pa pn pc ps au d tx W) (o : Obj) : BK w a n c b la m lc L t pa pn pc ps au d tx (W.alloc o) := h.below ((Below.refl _ _).alloc (Nat.le_refl _) _)
theorem got0 {v : Value} (h : ObAt (.blob b) v W) (hn : b.length = n) : ∃ qa qc, v = .iface 31 (.agg #[.slice qa n qc]) ∧ Bytes W qa n b := by
  obtain ⟨qa, qc, h1, h2, _⟩ := h
  rw [hn] at h1 h2
  exact ⟨qa, qc, h1, h2⟩
theorem got1 {v : Value} (h : ObAt (.tree L) v W) (hn : L.length = m) : ∃ qa qc, v = trV qa m qc ∧ Ents W qa m L := by
  obtain ⟨qa, qc, h1, h2, _⟩ := h
  rw [hn] at h1 h2
  exact ⟨qa, qc, h1, h2⟩
theorem got2 {v : Value} (h : ObAt (.com (t, ps, au, d, tx)) v W) (hn : ps.length = pn) : ∃ qa qc, v = coV t qa pn qc au d tx ∧ Ids W qa pn ps := by
  obtain ⟨qa, qc, h1, h2⟩ := h
  have h3 := h2.par
  simp only at h1 h3
  rw [hn] at h1 h3
  exact ⟨qa, qc, h1, h3⟩
end
theorem field_blob (v : Value) (W : World) : (Instr.field 31 (.agg #[v]) 0).run Try.prog W = .ok v W := by
  kernel_rfl
theorem ix0 (x y z : Value) (W : World) : (Instr.index 36 (.agg #[x, y, z]) (.int .i64 0)).run Try.prog W = .ok x W := by
  kernel_rfl
theorem ix1 (x y z : Value) (W : World) : (Instr.index 36 (.agg #[x, y, z]) (.int .i64 1)).run Try.prog W = .ok y W := by
  kernel_rfl
theorem ix2 (x y z : Value) (W : World) : (Instr.index 36 (.agg #[x, y, z]) (.int .i64 2)).run Try.prog W = .ok z W := by
  kernel_rfl
theorem one_self (t : Int) (ps : List Int) (au : ByteArray) (d : Int) (tx : ByteArray) : decide (oneC t t ps ps au au d d tx tx) = true := decide_eq_true ⟨rfl, rfl, rfl, rfl, rfl⟩

set_option maxRecDepth 100000 in
set_option maxHeartbeats 16000000 in
theorem objectBack_walk (a : Option Addr) (n c : Nat) (b : List UInt8) (la : Option Addr) (ln lc : Nat) (l : List Ent) (t : Int) (pa : Option Addr) (pn pc : Nat) (ps : List Int) (au : ByteArray) (d : Int) (tx : ByteArray) (w : World) (hb : Bytes w a n b) (hnil : a = none → n = 0 ∧ c = 0) (hnm : n ≤ maxLen) (he : Ents w la ln l) (hf : Fields l) (hlc : ln ≤ lc) (hc : Com w t pa pn pc ps au d tx) :
    Calls Try.prog 3 #[.slice a n c, .slice la ln lc, cmt t pa pn pc au d tx] w fun e w' => e = .returned (.bool true) ∧ Below w.heap.size w w' := by
  obtain ⟨m, hm⟩ : ∃ m, m = min ln 256 := ⟨_, rfl⟩
  have im : (m : Int) ≤ (lc : Int) := by omega
  have HM : Hid (m = min ln 256) := hm
  have hm9 : m ≤ 256 := by omega
  have he' := he.takeR m (by omega)
  have hf' := hf.takeR m
  generalize l.take m = L at he' hf'
  have hLn := he'.1
  have hbn := hb.1
  have hpn := hc.par.1
  have hpl := hc.len.2.1
  unfold maxLen at hnm
  have hB0 : Below w.heap.size w (w.alloc (.cells #[.int .u64 t, .slice pa pn pc, .string au, .int .i64 d, .string tx] 28)) := (Below.refl _ w).alloc (Nat.le_refl _) _
  have F0 : Hid (BK w a n c b la m lc L t pa pn pc ps au d tx (w.alloc (.cells #[.int .u64 t, .slice pa pn pc, .string au, .int .i64 d, .string tx] 28))) := ⟨⟨a, c, by rw [hbn], by rw [hbn]; exact bytes_below hb hB0, by rw [hbn]; exact hnil, by omega⟩, ⟨la, lc, by rw [hLn], by rw [hLn]; exact he'.below hB0, hf', by omega⟩, ⟨pa, pc, by simp only; rw [hpn], by simp only; rw [hpn]; exact hc.below hB0⟩, bytes_below hb hB0, he'.below hB0, hc.par.below hB0, Box5.new _ _ _ _ _ _, hB0⟩
  have HB0 := bb_any F0.out.o0
  have HB1 := bb_any F0.out.o1
  have HB2 := bb_any F0.out.o2
  have hid0 := id_ne (obB (.blob b))
  have hid1 := id_ne (obB (.tree L))
  have hid2 := id_ne (obB (.com (t, ps, au, d, tx)))
  generalize obErr (.blob b) = E0 at HB0
  generalize obErr (.tree L) = E1 at HB1
  generalize obErr (.com (t, ps, au, d, tx)) = E2 at HB2
  generalize obK (.blob b) = K0 at HB0
  generalize obK (.tree L) = K1 at HB1
  generalize obK (.com (t, ps, au, d, tx)) = K2 at HB2
  generalize idOf (obB (.blob b)) = I0 at HB0 hid0
  generalize idOf (obB (.tree L)) = I1 at HB1 hid1
  generalize idOf (obB (.com (t, ps, au, d, tx))) = I2 at HB2 hid2
  generalize (obB (.blob b)).length = k0 at HB0
  generalize (obB (.tree L)).length = k1 at HB1
  generalize (obB (.com (t, ps, au, d, tx))).length = k2 at HB2
  generalize obB (.blob b) = T0 at HB0
  generalize obB (.tree L) = T1 at HB1
  generalize obB (.com (t, ps, au, d, tx)) = T2 at HB2
  have B0 : Hid (BB (.blob b) (.iface 31 (.agg #[.slice a n c])) E0 K0 I0 T0 k0) := HB0
  have B1 : Hid (BB (.tree L) (trV la m lc) E1 K1 I1 T1 k1) := HB1
  have B2 : Hid (BB (.com (t, ps, au, d, tx)) (coV t pa pn pc au d tx) E2 K2 I2 T2 k2) := HB2
  have HBN : Hid (b.length = n) := hbn
  have HLN : Hid (L.length = m) := hLn
  have HPN : Hid (ps.length = pn) := hpn
  clear HB0 HB1 HB2 hb hnil he hf he' hf' hc hB0 hm hbn hLn hpn hnm
  go_enter Try.func3, Try.ntmps3
  go_wp2_with first
    | (go_at_call 7; have _t := F0; refine (wakes_any _).mono ?_; rintro e w1 ⟨rfl, hB1⟩; have F1 : Hid (BK w a n c b la m lc L t pa pn pc ps au d tx w1) := F0.out.below hB1; obtain ⟨c0, c1, c2, c3, c4⟩ := F1.out.box.cell; clear F0 _t hB1)
    | (refine wpList_minR _ rfl _ _ rfl ln 256 _ rfl rfl rfl ?_; rw [← HM.out])
  clear c0 c1 c2 c3 c4
  go_loopw [36] (fun i wr => ∃ k : Nat, k ≤ 3 ∧ i = .int .i64 (k : Int) ∧ Hid (BK w a n c b la m lc L t pa pn pc ps au d tx wr)) (fun i _ => 3 - (intOf i).toNat)
  case atStart => exact ⟨0, by omega, rfl, F1.out⟩
  case round =>
    clear F1
    obtain ⟨k, hk, rfl, H⟩ := hrel
    by_cases h3 : k = 3
    · subst h3
      go_wp2_with (go_at_call 7; refine (wakes_any _).mono ?_; rintro e w9 ⟨rfl, hB9⟩)
      go_ret
      exact ⟨rfl, (H.out.below hB9).bel⟩
    · have hk3 : k = 0 ∨ k = 1 ∨ k = 2 := by omega
      rcases hk3 with rfl | rfl | rfl
      · have hix := ix0 (.iface 31 (.agg #[.slice a n c])) (trV la m lc) (coV t pa pn pc au d tx)
        have HX := B0
        clear B1 B2
        by_cases hE : E0 = 0
        · subst hE
          have i0 : (I0 == 0) = false := by simp [hid0]
          clear hid0 hid1 hid2
          go_wp2_with first
            | (go_at_call 8; refine (HX.out.en rfl _ _ H.out.o0).mono ?_; rintro e w2 ⟨xa, xc, rfl, hx2, hB2⟩; have F2 : Hid (BK w a n c b la m lc L t pa pn pc ps au d tx w2 ∧ Bytes w2 xa k0 T0) := ⟨H.out.below hB2, hx2⟩; clear H hx2 hB2)
            | (go_at_call 9; refine (HX.out.ck _ F2.out.1.o0).mono ?_; rintro e w3 ⟨rfl, hB3⟩; have F3 : Hid (BK w a n c b la m lc L t pa pn pc ps au d tx w3 ∧ Bytes w3 xa k0 T0) := ⟨F2.out.1.below hB3, bytes_below F2.out.2 hB3⟩; clear F2 hB3)
            | (go_at_call 10; refine (HX.out.dc rfl _ xa xc F3.out.2).mono ?_; rintro e w4 ⟨⟨vp, rfl, hO4⟩, hB4⟩; obtain ⟨qa, qc, hq, hqb⟩ := got0 hO4 HBN.out; subst hq; have ta0 := as_blob (.agg #[.slice qa n qc]); have F4 : Hid (BK w a n c b la m lc L t pa pn pc ps au d tx w4 ∧ Bytes w4 xa k0 T0 ∧ ObAt (.blob b) (.iface 31 (.agg #[.slice qa n qc])) w4 ∧ Bytes w4 qa n b) := ⟨F3.out.1.below hB4, bytes_below F3.out.2 hB4, hO4, hqb⟩; clear F3 hB4 hO4 hqb)
            | (go_at_call 8; refine (HX.out.en rfl _ _ F4.out.2.2.1).mono ?_; rintro e w5 ⟨ya, yc, rfl, hy5, hB5⟩; have F5 : Hid (BK w a n c b la m lc L t pa pn pc ps au d tx w5 ∧ Bytes w5 xa k0 T0 ∧ ObAt (.blob b) (.iface 31 (.agg #[.slice qa n qc])) w5 ∧ Bytes w5 qa n b ∧ Bytes w5 ya k0 T0) := ⟨F4.out.1.below hB5, bytes_below F4.out.2.1 hB5, F4.out.2.2.1.below hB5, bytes_below F4.out.2.2.2 hB5, hy5⟩; clear F4 hy5 hB5)
            | (go_at_call 11; refine (HX.out.of rfl _ F5.out.1.o0).mono ?_; rintro e w6 ⟨rfl, hB6⟩; have F6 : Hid (BK w a n c b la m lc L t pa pn pc ps au d tx w6 ∧ Bytes w6 xa k0 T0 ∧ ObAt (.blob b) (.iface 31 (.agg #[.slice qa n qc])) w6 ∧ Bytes w6 qa n b ∧ Bytes w6 ya k0 T0) := ⟨F5.out.1.below hB6, bytes_below F5.out.2.1 hB6, F5.out.2.2.1.below hB6, bytes_below F5.out.2.2.2.1 hB6, bytes_below F5.out.2.2.2.2 hB6⟩; clear F5 hB6)
            | (go_at_call 12; refine (equal_yes _ xa ya k0 k0 xc yc T0 F6.out.2.1 F6.out.2.2.2.2).mono ?_; rintro e w7 ⟨rfl, h7⟩; subst h7; have F7 := F6; clear F6)
            | (go_at_call 13; refine (HX.out.kd _ _ F7.out.2.2.1).mono ?_; rintro e w8 ⟨rfl, h8⟩; subst h8; have F8 := F7; clear F7)
            | (go_at_call 13; refine (HX.out.kd _ _ F8.out.1.o0).mono ?_; rintro e w9 ⟨rfl, h9⟩; subst h9; have F9 := F8; clear F8)
            | (go_at_call 14; refine (HX.out.sm rfl _ _ F9.out.1.o0 F9.out.2.2.1).mono ?_; rintro e w10 ⟨rfl, hB10⟩; have F10 : Hid (BK w a n c b la m lc L t pa pn pc ps au d tx w10 ∧ Bytes w10 xa k0 T0 ∧ Bytes w10 qa n b) := ⟨F9.out.1.below hB10, bytes_below F9.out.2.1 hB10, bytes_below F9.out.2.2.2.1 hB10⟩; clear F9 hB10)
            | (go_at_call 15; refine (HX.out.id rfl _ xa xc F10.out.2.1).mono ?_; rintro e w11 ⟨rfl, h11⟩; subst h11; have F11 : Hid (BK w a n c b la m lc L t pa pn pc ps au d tx (w11.alloc (.cells #[.slice qa n qc] 31)) ∧ Bytes (w11.alloc (.cells #[.slice qa n qc] 31)) qa n b) := ⟨F10.out.1.alloc _, bytes_below F10.out.2.2 ((Below.refl _ _).alloc (Nat.le_refl _) _)⟩; skip; clear F10)
            | (go_at_call 12; refine (equal_yes _ qa a n n qc c b F11.out.2 F11.out.1.bb).mono ?_; rintro e w12 ⟨rfl, h12⟩; subst h12)
          go_roundw
          case rel => exact ⟨1, by omega, by simp, F11.out.1⟩
          case measure => simp [intOf]
        · have e1 : (E0 == 0) = false := by simp [hE]
          have e2 : (E0 != 0) = true := by simp [hE]
          clear hid0 hid1 hid2
          go_wp2_with first
            | (go_at_call 8; refine (HX.out.eb hE _ H.out.o0).mono ?_; rintro e w2 ⟨rfl, hB2⟩; have F2 : Hid (BK w a n c b la m lc L t pa pn pc ps au d tx w2) := H.out.below hB2; clear H hB2)
            | (go_at_call 9; refine (HX.out.ck _ F2.out.o0).mono ?_; rintro e w3 ⟨rfl, hB3⟩; have F3 : Hid (BK w a n c b la m lc L t pa pn pc ps au d tx w3) := F2.out.below hB3; clear F2 hB3)
          go_roundw
          case rel => exact ⟨1, by omega, by simp, F3.out⟩
          case measure => simp [intOf]
      · have hix := ix1 (.iface 31 (.agg #[.slice a n c])) (trV la m lc) (coV t pa pn pc au d tx)
        have HX := B1
        clear B0 B2
        by_cases hE : E1 = 0
        · subst hE
          have i0 : (I1 == 0) = false := by simp [hid1]
          clear hid0 hid1 hid2
          go_wp2_with first
            | (go_at_call 8; refine (HX.out.en rfl _ _ H.out.o1).mono ?_; rintro e w2 ⟨xa, xc, rfl, hx2, hB2⟩; have F2 : Hid (BK w a n c b la m lc L t pa pn pc ps au d tx w2 ∧ Bytes w2 xa k1 T1) := ⟨H.out.below hB2, hx2⟩; clear H hx2 hB2)
            | (go_at_call 9; refine (HX.out.ck _ F2.out.1.o1).mono ?_; rintro e w3 ⟨rfl, hB3⟩; have F3 : Hid (BK w a n c b la m lc L t pa pn pc ps au d tx w3 ∧ Bytes w3 xa k1 T1) := ⟨F2.out.1.below hB3, bytes_below F2.out.2 hB3⟩; clear F2 hB3)
            | (go_at_call 10; refine (HX.out.dc rfl _ xa xc F3.out.2).mono ?_; rintro e w4 ⟨⟨vp, rfl, hO4⟩, hB4⟩; obtain ⟨qa, qc, hq, hqb⟩ := got1 hO4 HLN.out; subst hq; have ta0 := no_blob_tree (.agg #[.slice qa m qc]); have ta1 := as_tree (.agg #[.slice qa m qc]); have F4 : Hid (BK w a n c b la m lc L t pa pn pc ps au d tx w4 ∧ Bytes w4 xa k1 T1 ∧ ObAt (.tree L) (trV qa m qc) w4 ∧ Ents w4 qa m L) := ⟨F3.out.1.below hB4, bytes_below F3.out.2 hB4, hO4, hqb⟩; clear F3 hB4 hO4 hqb)
            | (go_at_call 8; refine (HX.out.en rfl _ _ F4.out.2.2.1).mono ?_; rintro e w5 ⟨ya, yc, rfl, hy5, hB5⟩; have F5 : Hid (BK w a n c b la m lc L t pa pn pc ps au d tx w5 ∧ Bytes w5 xa k1 T1 ∧ ObAt (.tree L) (trV qa m qc) w5 ∧ Ents w5 qa m L ∧ Bytes w5 ya k1 T1) := ⟨F4.out.1.below hB5, bytes_below F4.out.2.1 hB5, F4.out.2.2.1.below hB5, F4.out.2.2.2.below hB5, hy5⟩; clear F4 hy5 hB5)
            | (go_at_call 11; refine (HX.out.of rfl _ F5.out.1.o1).mono ?_; rintro e w6 ⟨rfl, hB6⟩; have F6 : Hid (BK w a n c b la m lc L t pa pn pc ps au d tx w6 ∧ Bytes w6 xa k1 T1 ∧ ObAt (.tree L) (trV qa m qc) w6 ∧ Ents w6 qa m L ∧ Bytes w6 ya k1 T1) := ⟨F5.out.1.below hB6, bytes_below F5.out.2.1 hB6, F5.out.2.2.1.below hB6, F5.out.2.2.2.1.below hB6, bytes_below F5.out.2.2.2.2 hB6⟩; clear F5 hB6)
            | (go_at_call 12; refine (equal_yes _ xa ya k1 k1 xc yc T1 F6.out.2.1 F6.out.2.2.2.2).mono ?_; rintro e w7 ⟨rfl, h7⟩; subst h7; have F7 := F6; clear F6)
            | (go_at_call 13; refine (HX.out.kd _ _ F7.out.2.2.1).mono ?_; rintro e w8 ⟨rfl, h8⟩; subst h8; have F8 := F7; clear F7)
            | (go_at_call 13; refine (HX.out.kd _ _ F8.out.1.o1).mono ?_; rintro e w9 ⟨rfl, h9⟩; subst h9; have F9 := F8; clear F8)
            | (go_at_call 14; refine (HX.out.sm rfl _ _ F9.out.1.o1 F9.out.2.2.1).mono ?_; rintro e w10 ⟨rfl, hB10⟩; have F10 : Hid (BK w a n c b la m lc L t pa pn pc ps au d tx w10 ∧ Bytes w10 xa k1 T1 ∧ Ents w10 qa m L) := ⟨F9.out.1.below hB10, bytes_below F9.out.2.1 hB10, F9.out.2.2.2.1.below hB10⟩; clear F9 hB10)
            | (go_at_call 15; refine (HX.out.id rfl _ xa xc F10.out.2.1).mono ?_; rintro e w11 ⟨rfl, h11⟩; subst h11; have F11 : Hid (BK w a n c b la m lc L t pa pn pc ps au d tx (w11.alloc (.cells #[.slice qa m qc] 33)) ∧ Ents (w11.alloc (.cells #[.slice qa m qc] 33)) qa m L) := ⟨F10.out.1.alloc _, F10.out.2.2.below ((Below.refl _ _).alloc (Nat.le_refl _) _)⟩; skip; clear F10)
            | (go_at_call 16; refine (entries_like _ qa la m qc lc L F11.out.2 F11.out.1.ee (by omega)).mono ?_; rintro e w12 ⟨rfl, hB12⟩; have F12 : Hid (BK w a n c b la m lc L t pa pn pc ps au d tx w12) := F11.out.1.below hB12; clear hB12)
          go_roundw
          case rel => exact ⟨2, by omega, by simp, F12.out⟩
          case measure => simp [intOf]
        · have e1 : (E1 == 0) = false := by simp [hE]
          have e2 : (E1 != 0) = true := by simp [hE]
          clear hid0 hid1 hid2
          go_wp2_with first
            | (go_at_call 8; refine (HX.out.eb hE _ H.out.o1).mono ?_; rintro e w2 ⟨rfl, hB2⟩; have F2 : Hid (BK w a n c b la m lc L t pa pn pc ps au d tx w2) := H.out.below hB2; clear H hB2)
            | (go_at_call 9; refine (HX.out.ck _ F2.out.o1).mono ?_; rintro e w3 ⟨rfl, hB3⟩; have F3 : Hid (BK w a n c b la m lc L t pa pn pc ps au d tx w3) := F2.out.below hB3; clear F2 hB3)
          go_roundw
          case rel => exact ⟨2, by omega, by simp, F3.out⟩
          case measure => simp [intOf]
      · have hix := ix2 (.iface 31 (.agg #[.slice a n c])) (trV la m lc) (coV t pa pn pc au d tx)
        have HX := B2
        clear B0 B1
        by_cases hE : E2 = 0
        · subst hE
          have i0 : (I2 == 0) = false := by simp [hid2]
          clear hid0 hid1 hid2
          go_wp2_with first
            | (go_at_call 8; refine (HX.out.en rfl _ _ H.out.o2).mono ?_; rintro e w2 ⟨xa, xc, rfl, hx2, hB2⟩; have F2 : Hid (BK w a n c b la m lc L t pa pn pc ps au d tx w2 ∧ Bytes w2 xa k2 T2) := ⟨H.out.below hB2, hx2⟩; clear H hx2 hB2)
            | (go_at_call 9; refine (HX.out.ck _ F2.out.1.o2).mono ?_; rintro e w3 ⟨rfl, hB3⟩; have F3 : Hid (BK w a n c b la m lc L t pa pn pc ps au d tx w3 ∧ Bytes w3 xa k2 T2) := ⟨F2.out.1.below hB3, bytes_below F2.out.2 hB3⟩; clear F2 hB3)
            | (go_at_call 10; refine (HX.out.dc rfl _ xa xc F3.out.2).mono ?_; rintro e w4 ⟨⟨vp, rfl, hO4⟩, hB4⟩; obtain ⟨qa, qc, hq, hqb⟩ := got2 hO4 HPN.out; subst hq; have ta0 := no_blob_com (cmt t qa pn qc au d tx); have ta1 := no_tree_com (cmt t qa pn qc au d tx); have ta2 := as_commit (cmt t qa pn qc au d tx); have F4 : Hid (BK w a n c b la m lc L t pa pn pc ps au d tx w4 ∧ Bytes w4 xa k2 T2 ∧ ObAt (.com (t, ps, au, d, tx)) (coV t qa pn qc au d tx) w4 ∧ Ids w4 qa pn ps) := ⟨F3.out.1.below hB4, bytes_below F3.out.2 hB4, hO4, hqb⟩; clear F3 hB4 hO4 hqb)
            | (go_at_call 8; refine (HX.out.en rfl _ _ F4.out.2.2.1).mono ?_; rintro e w5 ⟨ya, yc, rfl, hy5, hB5⟩; have F5 : Hid (BK w a n c b la m lc L t pa pn pc ps au d tx w5 ∧ Bytes w5 xa k2 T2 ∧ ObAt (.com (t, ps, au, d, tx)) (coV t qa pn qc au d tx) w5 ∧ Ids w5 qa pn ps ∧ Bytes w5 ya k2 T2) := ⟨F4.out.1.below hB5, bytes_below F4.out.2.1 hB5, F4.out.2.2.1.below hB5, F4.out.2.2.2.below hB5, hy5⟩; clear F4 hy5 hB5)
            | (go_at_call 11; refine (HX.out.of rfl _ F5.out.1.o2).mono ?_; rintro e w6 ⟨rfl, hB6⟩; have F6 : Hid (BK w a n c b la m lc L t pa pn pc ps au d tx w6 ∧ Bytes w6 xa k2 T2 ∧ ObAt (.com (t, ps, au, d, tx)) (coV t qa pn qc au d tx) w6 ∧ Ids w6 qa pn ps ∧ Bytes w6 ya k2 T2) := ⟨F5.out.1.below hB6, bytes_below F5.out.2.1 hB6, F5.out.2.2.1.below hB6, F5.out.2.2.2.1.below hB6, bytes_below F5.out.2.2.2.2 hB6⟩; clear F5 hB6)
            | (go_at_call 12; refine (equal_yes _ xa ya k2 k2 xc yc T2 F6.out.2.1 F6.out.2.2.2.2).mono ?_; rintro e w7 ⟨rfl, h7⟩; subst h7; have F7 := F6; clear F6)
            | (go_at_call 13; refine (HX.out.kd _ _ F7.out.2.2.1).mono ?_; rintro e w8 ⟨rfl, h8⟩; subst h8; have F8 := F7; clear F7)
            | (go_at_call 13; refine (HX.out.kd _ _ F8.out.1.o2).mono ?_; rintro e w9 ⟨rfl, h9⟩; subst h9; have F9 := F8; clear F8)
            | (go_at_call 14; refine (HX.out.sm rfl _ _ F9.out.1.o2 F9.out.2.2.1).mono ?_; rintro e w10 ⟨rfl, hB10⟩; have F10 : Hid (BK w a n c b la m lc L t pa pn pc ps au d tx w10 ∧ Bytes w10 xa k2 T2 ∧ Ids w10 qa pn ps) := ⟨F9.out.1.below hB10, bytes_below F9.out.2.1 hB10, F9.out.2.2.2.1.below hB10⟩; clear F9 hB10)
            | (go_at_call 15; refine (HX.out.id rfl _ xa xc F10.out.2.1).mono ?_; rintro e w11 ⟨rfl, h11⟩; subst h11; have F11 : Hid (BK w a n c b la m lc L t pa pn pc ps au d tx (w11.alloc (.cells #[.int .u64 t, .slice qa pn qc, .string au, .int .i64 d, .string tx] 28)) ∧ Ids (w11.alloc (.cells #[.int .u64 t, .slice qa pn qc, .string au, .int .i64 d, .string tx] 28)) qa pn ps) := ⟨F10.out.1.alloc _, F10.out.2.2.below ((Below.refl _ _).alloc (Nat.le_refl _) _)⟩; obtain ⟨z0, z1, z2, z3, z4⟩ := F11.out.1.box.cell; clear F10)
            | (go_at_call 17; refine (commits_any t t qa pa pn pn qc pc au au d d tx tx _ ps ps F11.out.2 F11.out.1.pp (by omega) (by omega)).mono ?_; rw [one_self]; rintro e w12 ⟨rfl, hB12⟩; have F12 : Hid (BK w a n c b la m lc L t pa pn pc ps au d tx w12) := F11.out.1.below hB12; clear hB12)
          go_roundw
          case rel => exact ⟨3, by omega, by simp, F12.out⟩
          case measure => simp [intOf]
        · have e1 : (E2 == 0) = false := by simp [hE]
          have e2 : (E2 != 0) = true := by simp [hE]
          clear hid0 hid1 hid2
          go_wp2_with first
            | (go_at_call 8; refine (HX.out.eb hE _ H.out.o2).mono ?_; rintro e w2 ⟨rfl, hB2⟩; have F2 : Hid (BK w a n c b la m lc L t pa pn pc ps au d tx w2) := H.out.below hB2; clear H hB2)
            | (go_at_call 9; refine (HX.out.ck _ F2.out.o2).mono ?_; rintro e w3 ⟨rfl, hB3⟩; have F3 : Hid (BK w a n c b la m lc L t pa pn pc ps au d tx w3) := F2.out.below hB3; clear F2 hB3)
          go_roundw
          case rel => exact ⟨3, by omega, by simp, F3.out⟩
          case measure => simp [intOf]
end Go.Proofs.Ytdibdcbihleflab

/- Proved here: for all bytes, entries and commits the law ObjectBack (an object is read as it was written, by its type and its fields) returns true, and its arguments read as before. No condition. -/
namespace Go.Proofs.Ytdibdcbihleflab
open Go.RowKit
open Go.ChangeShapes Go.WideShapes Go.ChangeAt

theorem own : ownKnob Try.prog.godebug = none := by kernel_rfl
theorem laidOut : laidOutB Try.prog = true := by kernel_rfl

set_option maxRecDepth 100000 in
theorem objectBack_lifted (os : Os) (started : os.Started) (H : Type) (enc : TypeId × Value → H) :
    ReturnsInHanded {} Try.checked os 3 .any (Rows.objectBackSpec.pre6 enc Try.prog Try.f3 Rows.objectBackRow.domain false) (Rows.objectBackSpec.post enc Try.prog Try.f3 false true false false) := by
  refine returnsInHanded_of_change_sized (C := Try.checked) own started (by kernel_rfl) Try.func3
    (ChangeSpec.witness6 (enc := enc) (C := Try.checked) false ⟨#[], #[.slice none 0 0, .slice none 0 0, .agg #[.int .u64 0, .slice none 0 0, .string ⟨#[]⟩, .int .i64 0, .string ⟨#[]⟩]], []⟩ 8 (by kernel_rfl) (by kernel_rfl) (by kernel_rfl) (by kernel_rfl)) ?_
  intro W base args ds gs before hval0 hW _ hsz0 _
  have hval : ∀ (j : Nat) t v, Try.f3.params[j]? = some t → args[j]? = some v → Value.okWide Try.prog W .any base t v := hval0
  have hW' := hW
  obtain ⟨p, q, hA0, hV, rfl, _, _⟩ := hW
  have hA : DataW.TrodAll enc Try.prog W 0 (fun _ => true) true Try.f3.params.toList args.toList ds p := hA0
  rw [Try.params3] at hA hval
  obtain ⟨v0, vs0, d0, ds0, p0, q0, hargs, rfl, rfl, h0, r0⟩ := trodAll_cons hA
  obtain ⟨v1, vs1, d1, ds1, p1, q1, rfl, rfl, rfl, h1, r1⟩ := trodAll_cons r0
  obtain ⟨v2, vs2, d2, ds2, p2, q2, rfl, rfl, rfl, h2, r2⟩ := trodAll_cons r1
  obtain ⟨rfl, rfl, rfl⟩ := trodAll_nil r2
  obtain rfl : args = #[v0, v1, v2] := by cases args; simp_all
  obtain ⟨rfl, rfl⟩ := trodVars_none hV
  have k0 := h0
  have lt0 : ∀ x ∈ p0, x.block < W.heap.size := by obtain ⟨m, hm⟩ := k0; exact DataW.trod_lt m _ _ _ hm
  have k1 := h1
  have lt1 : ∀ x ∈ p1, x.block < W.heap.size := by obtain ⟨m, hm⟩ := k1; exact DataW.trod_lt m _ _ _ hm
  have k2 := h2
  have lt2 : ∀ x ∈ p2, x.block < W.heap.size := by obtain ⟨m, hm⟩ := k2; exact DataW.trod_lt m _ _ _ hm
  obtain ⟨a, n, c, rfl⟩ := okWide_slice Try.underlying22 (hval 0 22 v0 rfl rfl)
  obtain ⟨fuel0, hf0⟩ := id k0
  obtain ⟨a1, n1, c1, l, he1, hb, hnc, hnil, hnm⟩ := bytes_cell hf0
  simp only [Value.slice.injEq] at he1
  obtain ⟨rfl, rfl, rfl⟩ := he1
  obtain ⟨la, ln, lc, es, rfl, hE, hEf, hElc, _⟩ := entries_arg3 (hval 1 23 v1 rfl rfl) h1
  obtain ⟨t1, pa1, pn1, pc1, ids1, au1, dd1, tx1, rfl, hC1⟩ := commit_arg3 (hval 2 28 v2 rfl rfl) h2
  clear hA0 hval0 hsz0
  refine (objectBack_walk a n c l la ln lc es t1 pa1 pn1 pc1 ids1 au1 dd1 tx1 W hb hnil hnm hE hEf hElc hC1).mono fun e W' ⟨he, bel⟩ => ?_
  subst he
  exact ⟨_, rfl, _, _, _, [], _, [], hW', trodAll_mk1 (shut_bool Try.underlying4 _), (trodAll_cons_mk (Below.trod laidOut (by kernel_rfl) (of_decide_eq_true (by kernel_rfl)) k0 bel lt0) (trodAll_cons_mk (Below.trod laidOut (by kernel_rfl) (of_decide_eq_true (by kernel_rfl)) k1 bel lt1) (trodAll_cons_mk (Below.trod laidOut (by kernel_rfl) (of_decide_eq_true (by kernel_rfl)) k2 bel lt2) trodAll_mk0))), rfl, bel.frame _, fun h => by cases h⟩

theorem objectBack_holds : Rows.ObjectBackSaid :=
  OpenClaim.holds_of_wide 3 Try.f3 rfl rfl rfl rfl rfl rfl rfl ⟨rfl, rfl, rfl, rfl, rfl⟩ rfl rfl rfl rfl rfl (by kernel_rfl) Try.func3 (by kernel_rfl)
    (of_decide_eq_true (by kernel_rfl)) (by unfold Func.isWrapper; first | (rw [if_pos (by decide +kernel)]; kernel_rfl) | (rw [if_neg (by decide +kernel)]; exact ⟨rfl, rfl⟩))
    (fun os started H enc _ => objectBack_lifted os started H enc)
#print axioms objectBack_holds

end Go.Proofs.Ytdibdcbihleflab
