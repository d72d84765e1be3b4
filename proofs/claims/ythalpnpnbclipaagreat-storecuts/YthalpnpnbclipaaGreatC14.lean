import Derived.Test.YthalpnpnbclipaaGreatC03
import Derived.Test.YthalpnpnbclipaaGreatC13
/- What a reader answers, whatever its state: one contract a call. -/
namespace Go.Proofs.YthalpnpnbclipaaGreat
open Go.RowKit

attribute [local go_sem] Oper.semAt_some

def byteR (l : List UInt8) (p : Nat) (e : Int) : Int × Nat × Int := if e ≠ 0 then (0, p, e) else if p < l.length then (bt l p, p + 1, 0) else (0, p, 110)
theorem byte_st (w : World) (r g p : Nat) (e : Int) (l : List UInt8) (h : Rd w r g p e l) :
    Calls Tryz.prog 114 #[.pointer (some ⟨r, 0, none⟩)] w fun x w' => x = .returned (.int .u8 (byteR l p e).1) ∧ Rd w' r g (byteR l p e).2.1 (byteR l p e).2.2 l ∧ w.grownBy w' (some r) := by
  unfold byteR
  by_cases he : e = 0
  · subst he
    rw [if_neg (by simp)]
    by_cases hp : p < l.length
    · rw [if_pos hp]
      exact byte_yes w r g p l h hp
    · rw [if_neg hp]
      exact byte_short w r g p l h (by have := h.hp; omega)
  · rw [if_pos he]
    refine (byte_stuck w r g p e l h (by simp [he])).mono fun x w' hx => ⟨hx.1, ?_, ?_⟩
    · rw [hx.2]; exact h
    · rw [hx.2]; exact ⟨rfl, rfl, rfl, Nat.le_refl _, fun _ _ _ => rfl⟩
def uintR (l : List UInt8) (p : Nat) (e : Int) : Int × Nat × Int := if e ≠ 0 then (0, p, e) else if (num (l.drop p)).2.2 = 0 then ((num (l.drop p)).1, p + (num (l.drop p)).2.1, 0) else (0, p, (num (l.drop p)).2.2)
theorem uint_st (w : World) (r g p : Nat) (e : Int) (l : List UInt8) (h : Rd w r g p e l) :
    Calls Tryz.prog 128 #[.pointer (some ⟨r, 0, none⟩)] w fun x w' => x = .returned (.int .u64 (uintR l p e).1) ∧ Rd w' r g (uintR l p e).2.1 (uintR l p e).2.2 l ∧ w.grownBy w' (some r) := by
  unfold uintR
  by_cases he : e = 0
  · subst he
    rw [if_neg (by simp)]
    by_cases hp : (num (l.drop p)).2.2 = 0
    · rw [if_pos hp]
      exact uint_yes w r g p l h hp
    · rw [if_neg hp]
      exact uint_no w r g p l h (by simp [hp])
  · rw [if_pos he]
    refine (uint_stuck w r g p e l h (by simp [he])).mono fun x w' hx => ⟨hx.1, ?_, ?_⟩
    · rw [hx.2]; exact h
    · rw [hx.2]; exact ⟨rfl, rfl, rfl, Nat.le_refl _, fun _ _ _ => rfl⟩
def wordR (l : List UInt8) (p : Nat) (e : Int) : Int × Nat × Int := if e ≠ 0 then (0, p, e) else if l.length < p + 8 then (0, p, 110) else (wideVal ((l.drop p).take 8) 8, p + 8, 0)
theorem word_st (w : World) (r g p : Nat) (e : Int) (l : List UInt8) (h : Rd w r g p e l) :
    Calls Tryz.prog 79 #[.pointer (some ⟨r, 0, none⟩)] w fun x w' => x = .returned (.int .u64 (wordR l p e).1) ∧ Rd w' r g (wordR l p e).2.1 (wordR l p e).2.2 l ∧ w.grownBy w' (some r) := by
  have hp := h.hp
  unfold wordR
  by_cases he : e = 0
  · subst he
    rw [if_neg (by simp)]
    by_cases h8 : l.length < p + 8
    · rw [if_pos h8]
      exact word_short w r g p (l.length - p) l h (by omega) (by omega)
    · rw [if_neg h8]
      exact word_yes w r g p (l.length - p) l h (by omega) (by omega)
  · rw [if_pos he]
    refine (word_stuck w r g p e l h (by simp [he])).mono fun x w' hx => ⟨hx.1, ?_, ?_⟩
    · rw [hx.2]; exact h
    · rw [hx.2]; exact ⟨rfl, rfl, rfl, Nat.le_refl _, fun _ _ _ => rfl⟩
def cutT (s : List UInt8) (most : Int) : ByteArray := ⟨((s.take (txt s most).2.1).drop (txt s most).1).toArray⟩
def textR (l : List UInt8) (p : Nat) (e most : Int) : ByteArray × Nat × Int := if e ≠ 0 then (⟨#[]⟩, p, e) else if (txt (l.drop p) most).2.2 = 0 then (cutT (l.drop p) most, p + (txt (l.drop p) most).2.1, 0) else (⟨#[]⟩, p, (txt (l.drop p) most).2.2)
theorem text_st (w : World) (r g p : Nat) (e most : Int) (l : List UInt8) (h : Rd w r g p e l) (hmost : most ≤ 9223372036854775807) :
    Calls Tryz.prog 78 #[.pointer (some ⟨r, 0, none⟩), .int .i64 most] w fun x w' => x = .returned (.string (textR l p e most).1) ∧ Rd w' r g (textR l p e most).2.1 (textR l p e most).2.2 l ∧ w.grownBy w' (some r) := by
  have hp := h.hp
  unfold textR
  by_cases he : e = 0
  · subst he
    rw [if_neg (by simp)]
    by_cases h8 : (txt (l.drop p) most).2.2 = 0
    · rw [if_pos h8]
      exact text_yes w r g p (l.length - p) most l h (by omega) hmost h8
    · rw [if_neg h8]
      exact text_no w r g p (l.length - p) most l h (by omega) hmost (by simp [h8])
  · rw [if_pos he]
    refine (text_stuck w r g p e most l h (by simp [he])).mono fun x w' hx => ⟨hx.1, ?_, ?_⟩
    · rw [hx.2]; exact h
    · rw [hx.2]; exact ⟨rfl, rfl, rfl, Nat.le_refl _, fun _ _ _ => rfl⟩
/-- the bounds of what is read -/
theorem byteR_fits (l : List UInt8) (p : Nat) (e : Int) : 0 ≤ (byteR l p e).1 ∧ (byteR l p e).1 ≤ 255 := by
  unfold byteR
  split
  · simp
  · split
    · have := (l.getD p 0).toNat_lt
      unfold bt
      simp only
      omega
    · simp
theorem uintR_fits (l : List UInt8) (p : Nat) (e : Int) : 0 ≤ (uintR l p e).1 ∧ (uintR l p e).1 ≤ 18446744073709551615 := by
  unfold uintR
  split
  · simp
  · split
    · exact num_fits _
    · simp

/-- one entry, as it is read -/
def entR (l : List UInt8) (p : Nat) (e : Int) : Option Ent × Nat × Int :=
  let t := textR l p e 32
  let b := byteR l t.2.1 t.2.2
  let x := wordR l b.2.1 b.2.2
  (if x.2.2 ≠ 0 ∨ 1 < b.1 then none else some (t.1, b.1 == 1, x.1), x.2.1, x.2.2)
def entV : Option Ent → Value
  | none => .agg #[.string ⟨#[]⟩, .bool false, .int .u64 0]
  | some x => .agg #[.string x.1, .bool x.2.1, .int .u64 x.2.2]
theorem Box3.all {W : World} {g : Nat} {v0 v1 v2 : Value} (h : Box3 W g v0 v1 v2) (u0 u1 u2 : Value) : Box3 (((W.setCell ⟨g, 0, none⟩ u0).setCell ⟨g, 1, none⟩ u1).setCell ⟨g, 2, none⟩ u2) g u0 u1 u2 := by
  have h' : W.heap[g]? = _ := h
  have hl := h.lt
  unfold Box3
  simp [World.setCell, Array.getElem?_modify, h']
theorem Box3.frozen {W : World} {g : Nat} {u0 u1 u2 : Value} (h : Box3 W g u0 u1 u2) : W.frozen? ⟨g, 0, none⟩ = false ∧ W.frozen? ⟨g, 1, none⟩ = false ∧ W.frozen? ⟨g, 2, none⟩ = false := by
  unfold Box3 at h
  simp [World.frozen?, h]
theorem Box3.grown {W W' : World} {g r : Nat} {u0 u1 u2 : Value} (h : Box3 W g u0 u1 u2) (hg : W.grownBy W' (some r)) (hr : g ≠ r) : Box3 W' g u0 u1 u2 := (hg.block g h.lt (fun e => hr (Option.some.inj e))).trans h

set_option maxRecDepth 20000 in
set_option maxHeartbeats 2000000 in
theorem readEntry_any (w : World) (r g p : Nat) (e : Int) (l : List UInt8) (h : Rd w r g p e l) (hr : r < w.heap.size) (hg : g < w.heap.size) :
    Calls Tryz.prog 129 #[.pointer (some ⟨r, 0, none⟩)] w fun x w' => x = .returned (.tuple #[entV (entR l p e).1, .bool (entR l p e).1.isSome]) ∧ Rd w' r g (entR l p e).2.1 (entR l p e).2.2 l ∧ w.grownBy w' (some r) := by
  have hg0 : w.grownBy (w.alloc (.cells #[.string ⟨#[]⟩, .bool false, .int .u64 0] 127)) (some r) := ⟨rfl, rfl, rfl, by simp, fun k hk _ => Below.heap_alloc _ _ _ hk⟩
  have h0 : Rd (w.alloc (.cells #[.string ⟨#[]⟩, .bool false, .int .u64 0] 127)) r g p e l := h.kept (row := none) ⟨rfl, rfl, rfl, by simp, fun k hk _ => Below.heap_alloc _ _ _ hk⟩ (by simp) (by simp)
  have b0 := Box3.new w (.string ⟨#[]⟩) (.bool false) (.int .u64 0)
  have hne : w.heap.size ≠ r := by omega
  have hbf := byteR_fits l (textR l p e 32).2.1 (textR l p e 32).2.2
  obtain ⟨t, ht⟩ : ∃ t, t = textR l p e 32 := ⟨_, rfl⟩
  rw [← ht] at hbf
  obtain ⟨b, hb⟩ : ∃ b, b = byteR l t.2.1 t.2.2 := ⟨_, rfl⟩
  rw [← hb] at hbf
  obtain ⟨x, hx⟩ : ∃ x, x = wordR l b.2.1 b.2.2 := ⟨_, rfl⟩
  have hE : entR l p e = (if x.2.2 ≠ 0 ∨ 1 < b.1 then none else some (t.1, b.1 == 1, x.1), x.2.1, x.2.2) := by rw [hx, hb, ht]; rfl
  rw [hE]
  have HT : Hid (∀ W, Rd W r g p e l → Calls Tryz.prog 78 #[.pointer (some ⟨r, 0, none⟩), .int .i64 32] W fun y w' => y = .returned (.string t.1) ∧ Rd w' r g t.2.1 t.2.2 l ∧ W.grownBy w' (some r)) := fun W hW => by rw [ht]; exact text_st W r g p e 32 l hW (by omega)
  have HBy : Hid (∀ W, Rd W r g t.2.1 t.2.2 l → Calls Tryz.prog 114 #[.pointer (some ⟨r, 0, none⟩)] W fun y w' => y = .returned (.int .u8 b.1) ∧ Rd w' r g b.2.1 b.2.2 l ∧ W.grownBy w' (some r)) := fun W hW => by rw [hb]; exact byte_st W r g _ _ l hW
  have HW : Hid (∀ W, Rd W r g b.2.1 b.2.2 l → Calls Tryz.prog 79 #[.pointer (some ⟨r, 0, none⟩)] W fun y w' => y = .returned (.int .u64 x.1) ∧ Rd w' r g x.2.1 x.2.2 l ∧ W.grownBy w' (some r)) := fun W hW => by rw [hx]; exact word_st W r g _ _ l hW
  clear ht hb hx hE
  obtain ⟨t1, tp, te⟩ := t
  obtain ⟨bv, bp, be⟩ := b
  obtain ⟨xv, xp, xe⟩ := x
  simp only at HT HBy HW hbf ⊢
  have key : ∀ ok : Bool, ok = (!(decide (xe ≠ 0 ∨ 1 < bv))) → Calls Tryz.prog 129 #[.pointer (some ⟨r, 0, none⟩)] w fun x w' => x = .returned (.tuple #[if ok = true then .agg #[.string t1, .bool (bv == 1), .int .u64 xv] else .agg #[.string ⟨#[]⟩, .bool false, .int .u64 0], .bool ok]) ∧ Rd w' r g xp xe l ∧ w.grownBy w' (some r) := by
    intro ok hok
    have H0 : Hid (Rd (w.alloc (.cells #[.string ⟨#[]⟩, .bool false, .int .u64 0] 127)) r g p e l) := h0
    have HG0 : Hid (w.grownBy (w.alloc (.cells #[.string ⟨#[]⟩, .bool false, .int .u64 0] 127)) (some r)) := hg0
    have HK : Hid (∀ W, Rd W r g xp xe l → w.grownBy W (some r) → ∀ u0 u1 u2, Rd (((W.setCell ⟨w.heap.size, 0, none⟩ u0).setCell ⟨w.heap.size, 1, none⟩ u1).setCell ⟨w.heap.size, 2, none⟩ u2) r g xp xe l ∧ w.grownBy (((W.setCell ⟨w.heap.size, 0, none⟩ u0).setCell ⟨w.heap.size, 1, none⟩ u1).setCell ⟨w.heap.size, 2, none⟩ u2) (some r)) := fun W hR hG u0 u1 u2 => by
      have s1 : W.grownBy (((W.setCell ⟨w.heap.size, 0, none⟩ u0).setCell ⟨w.heap.size, 1, none⟩ u1).setCell ⟨w.heap.size, 2, none⟩ u2) (some w.heap.size) := grownBy_trans (grownBy_trans (grownBy_setCell _ _ _ _) (grownBy_setCell _ _ _ _)) (grownBy_setCell _ _ _ _)
      refine ⟨hR.kept s1 (by simp; omega) (by simp; omega), ⟨s1.os.trans hG.os, s1.tape.trans hG.tape, s1.output.trans hG.output, Nat.le_trans hG.size s1.size, fun k hk hn => ?_⟩⟩
      exact (s1.block k (Nat.lt_of_lt_of_le hk hG.size) (by simp; omega)).trans (hG.block k hk hn)
    clear h0 hg0 h
    by_cases hxe : xe = 0
    · subst hxe
      by_cases hbv : 1 < bv
      · have e0 : ok = false := by rw [hok]; simp [hbv]
        subst e0
        have i1 : decide ((1 : Int) < bv) = true := decide_eq_true hbv
        clear hok
        go_enter Tryz.func129, Tryz.ntmps129
        go_wp2_with first
          | (go_at_call 78; refine (HT.out _ H0.out).mono ?_; clear HT H0; rintro y w1 ⟨rfl, hR1, hG1⟩; have R1 : Hid (Rd w1 r g tp te l) := hR1; have G1 : Hid (w.grownBy w1 (some r)) := grownBy_trans HG0.out hG1; have b1 := b0.grown hG1 hne; clear hR1 hG1)
          | (go_at_call 114; refine (HBy.out _ R1.out).mono ?_; clear HBy R1; rintro y w2 ⟨rfl, hR2, hG2⟩; have R2 : Hid (Rd w2 r g bp be l) := hR2; have G2 : Hid (w.grownBy w2 (some r)) := grownBy_trans G1.out hG2; have b2 := b1.grown hG2 hne; clear hR2 hG2)
          | (go_at_call 79; refine (HW.out _ R2.out).mono ?_; clear HW R2; rintro y w3 ⟨rfl, hR3, hG3⟩; have R3 : Hid (Rd w3 r g xp 0 l) := hR3; have G3 : Hid (w.grownBy w3 (some r)) := grownBy_trans G2.out hG3; have b3 := b2.grown hG3 hne; obtain ⟨c0, c1, c2⟩ := b3.cell; obtain ⟨f0, f1, f2⟩ := b3.frozen; have re := hR3.c1; clear hR3 hG3)
          | (go_at_call 80; refine (err_any _ r 0 re).mono ?_; rintro y w4 ⟨rfl, hw4⟩; subst hw4)
        obtain ⟨d0, d1, d2⟩ := (b3.all (.string ⟨#[]⟩) (.bool false) (.int .u64 0)).cell
        obtain ⟨hRR, hGG⟩ := HK.out _ R3.out G3.out (.string ⟨#[]⟩) (.bool false) (.int .u64 0)
        refine bodyPost_ret (v := .tuple #[.agg #[.string ⟨#[]⟩, .bool false, .int .u64 0], .bool false]) (by simp [results, Tryz.results129, go_sem, d0, d1, d2]) rfl ⟨rfl, hRR, hGG⟩
      · have e0 : ok = true := by rw [hok]; simp [hbv]
        subst e0
        have i1 : decide ((1 : Int) < bv) = false := decide_eq_false hbv
        clear hok
        go_enter Tryz.func129, Tryz.ntmps129
        go_wp2_with first
          | (go_at_call 78; refine (HT.out _ H0.out).mono ?_; clear HT H0; rintro y w1 ⟨rfl, hR1, hG1⟩; have R1 : Hid (Rd w1 r g tp te l) := hR1; have G1 : Hid (w.grownBy w1 (some r)) := grownBy_trans HG0.out hG1; have b1 := b0.grown hG1 hne; clear hR1 hG1)
          | (go_at_call 114; refine (HBy.out _ R1.out).mono ?_; clear HBy R1; rintro y w2 ⟨rfl, hR2, hG2⟩; have R2 : Hid (Rd w2 r g bp be l) := hR2; have G2 : Hid (w.grownBy w2 (some r)) := grownBy_trans G1.out hG2; have b2 := b1.grown hG2 hne; clear hR2 hG2)
          | (go_at_call 79; refine (HW.out _ R2.out).mono ?_; clear HW R2; rintro y w3 ⟨rfl, hR3, hG3⟩; have R3 : Hid (Rd w3 r g xp 0 l) := hR3; have G3 : Hid (w.grownBy w3 (some r)) := grownBy_trans G2.out hG3; have b3 := b2.grown hG3 hne; obtain ⟨c0, c1, c2⟩ := b3.cell; obtain ⟨f0, f1, f2⟩ := b3.frozen; have re := hR3.c1; clear hR3 hG3)
          | (go_at_call 80; refine (err_any _ r 0 re).mono ?_; rintro y w4 ⟨rfl, hw4⟩; subst hw4)
        obtain ⟨d0, d1, d2⟩ := (b3.all (.string t1) (.bool (bv == 1)) (.int .u64 xv)).cell
        obtain ⟨hRR, hGG⟩ := HK.out _ R3.out G3.out (.string t1) (.bool (bv == 1)) (.int .u64 xv)
        refine bodyPost_ret (v := .tuple #[.agg #[.string t1, .bool (bv == 1), .int .u64 xv], .bool true]) (by simp [results, Tryz.results129, go_sem, d0, d1, d2]) rfl ⟨rfl, hRR, hGG⟩
    · have e0 : ok = false := by rw [hok]; simp [hxe]
      subst e0
      have i1 : (xe != 0) = true := by simp [hxe]
      have i2 : (xe == 0) = false := by simp [hxe]
      clear hok
      go_enter Tryz.func129, Tryz.ntmps129
      go_wp2_with first
        | (go_at_call 78; refine (HT.out _ H0.out).mono ?_; clear HT H0; rintro y w1 ⟨rfl, hR1, hG1⟩; have R1 : Hid (Rd w1 r g tp te l) := hR1; have G1 : Hid (w.grownBy w1 (some r)) := grownBy_trans HG0.out hG1; have b1 := b0.grown hG1 hne; clear hR1 hG1)
        | (go_at_call 114; refine (HBy.out _ R1.out).mono ?_; clear HBy R1; rintro y w2 ⟨rfl, hR2, hG2⟩; have R2 : Hid (Rd w2 r g bp be l) := hR2; have G2 : Hid (w.grownBy w2 (some r)) := grownBy_trans G1.out hG2; have b2 := b1.grown hG2 hne; clear hR2 hG2)
        | (go_at_call 79; refine (HW.out _ R2.out).mono ?_; clear HW R2; rintro y w3 ⟨rfl, hR3, hG3⟩; have R3 : Hid (Rd w3 r g xp xe l) := hR3; have G3 : Hid (w.grownBy w3 (some r)) := grownBy_trans G2.out hG3; have b3 := b2.grown hG3 hne; obtain ⟨c0, c1, c2⟩ := b3.cell; obtain ⟨f0, f1, f2⟩ := b3.frozen; have re := hR3.c1; clear hR3 hG3)
        | (go_at_call 80; refine (err_any _ r xe re).mono ?_; rintro y w4 ⟨rfl, hw4⟩; subst hw4)
      obtain ⟨d0, d1, d2⟩ := (b3.all (.string ⟨#[]⟩) (.bool false) (.int .u64 0)).cell
      obtain ⟨hRR, hGG⟩ := HK.out _ R3.out G3.out (.string ⟨#[]⟩) (.bool false) (.int .u64 0)
      refine bodyPost_ret (v := .tuple #[.agg #[.string ⟨#[]⟩, .bool false, .int .u64 0], .bool false]) (by simp [results, Tryz.results129, go_sem, d0, d1, d2]) rfl ⟨rfl, hRR, hGG⟩
  refine (key _ rfl).mono fun y w' hy => ⟨?_, hy.2⟩
  rw [hy.1]
  by_cases hq : xe ≠ 0 ∨ 1 < bv
  · rw [if_pos hq, decide_eq_true hq]; rfl
  · rw [if_neg hq, decide_eq_false hq]; rfl
end Go.Proofs.YthalpnpnbclipaaGreat
