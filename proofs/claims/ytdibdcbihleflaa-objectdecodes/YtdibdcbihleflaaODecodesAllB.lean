import Derived.Test.YtdibdcbihleflaaODecodesAllA
import Derived.Test.YtdibdcbihleflaaOCommit5
import Derived.Test.YtdibdcbihleflaaOArg3
import Derived.Test.YtdibdcbihleflaaRows
/- Plain: what the document's reading of a tree tells is what Decode tells. -/
namespace Go.Proofs.Ytdibdcbihleflaa
open Go.RowKit

theorem num_at' {s r : List UInt8} {v : Int} (h : numC s false = (v, r, false)) : ∃ X : Nat, X < 16384 ∧ v = (X : Int) ∧ s = short X ++ r := by
  have h' : contN 2 0 s = (v, r, false) := h
  cases s with
  | nil => simp [contN] at h'
  | cons x t =>
    have hx := x.toNat_lt
    by_cases h8 : x.toNat < 128
    · simp [contN, h8] at h'
      obtain ⟨h1, rfl⟩ := h'
      refine ⟨x.toNat, by omega, by omega, ?_⟩
      have : short x.toNat = [x] := by unfold short; rw [shortF_low 9 _ h8]; simp
      rw [this]; rfl
    · cases t with
      | nil => simp [contN, h8] at h'
      | cons y u =>
        have hy := y.toNat_lt
        by_cases h9 : y.toNat < 128
        · simp [contN, h8, h9] at h'
          obtain ⟨h1, rfl, h2⟩ := h'
          refine ⟨x.toNat % 128 + y.toNat * 128, by omega, by omega, ?_⟩
          have e : short (x.toNat % 128 + y.toNat * 128) = [x, y] := by
            unfold short
            rw [shortF_high 8 _ (by omega), shortF_low 8 _ (by omega)]
            have e1 : UInt8.ofNat ((x.toNat % 128 + y.toNat * 128) % 128 + 128) = x := by
              rw [show (x.toNat % 128 + y.toNat * 128) % 128 + 128 = x.toNat by omega]; simp
            have e2 : UInt8.ofNat ((x.toNat % 128 + y.toNat * 128) / 128) = y := by
              rw [show (x.toNat % 128 + y.toNat * 128) / 128 = y.toNat by omega]; simp
            rw [e1, e2]
          rw [e]; rfl
        · simp [contN, h8, h9] at h'
theorem num_of' (X : Nat) (hX : X < 16384) (r : List UInt8) : numC (short X ++ r) false = ((X : Int), r, false) := by
  show contN 2 0 (short X ++ r) = _
  unfold short
  by_cases h8 : X < 128
  · rw [shortF_low 9 _ h8]
    have e : (UInt8.ofNat X).toNat = X := by rw [UInt8.toNat_ofNat']; omega
    simp [contN, e, h8]
    omega
  · rw [shortF_high 8 _ h8, shortF_low 8 _ (by omega)]
    have e : (UInt8.ofNat (X % 128 + 128)).toNat = X % 128 + 128 := by rw [UInt8.toNat_ofNat']; omega
    have e2 : (UInt8.ofNat (X / 128)).toNat = X / 128 := by rw [UInt8.toNat_ofNat']; omega
    have g1 : ¬ X % 128 + 128 < 128 := by omega
    have g2 : X / 128 < 128 := by omega
    have g3 : ¬ X / 128 = 0 := by omega
    simp only [List.cons_append, List.nil_append, contN, e, e2, if_neg g1, if_pos g2]
    simp [g3]
    omega
theorem word_at' {s r : List UInt8} {f : Bool} {v : Int} (h : wordC s f = (v, r, false)) : f = false ∧ ∃ X : Nat, X < 18446744073709551616 ∧ v = (X : Int) ∧ s = wide X ++ r := by
  unfold wordC at h
  by_cases hb : f = true ∨ s.length < 8
  · rw [if_pos hb] at h; simp at h
  · rw [if_neg hb] at h
    simp only [Prod.mk.injEq, and_true] at h
    have hf : f = false := by cases f with | true => exact absurd (.inl rfl) hb | false => rfl
    have hl : 8 ≤ s.length := by
      by_cases h8 : s.length < 8
      · exact absurd (.inr h8) hb
      · omega
    have hlo := wideVal_lo s 8
    have hfi := wideVal_fits s 8 (by omega)
    obtain ⟨X, hX⟩ := Int.eq_ofNat_of_zero_le hlo
    have hb2 := wide_back (s.take 8) (by rw [List.length_take]; omega) X (by omega) (by rw [wv_take s 8 8 (Nat.le_refl _)]; exact hX)
    refine ⟨hf, X, by omega, by rw [← h.1]; exact hX, ?_⟩
    rw [← hb2, ← h.2, List.take_append_drop]
theorem word_of' (X : Nat) (hX : X < 18446744073709551616) (r : List UInt8) : wordC (wide X ++ r) false = ((X : Int), r, false) := by
  unfold wordC
  rw [if_neg (by rintro (h | h); · cases h
                 · simp [wide_len] at h; omega)]
  have h1 := wideVal_wide X r 8 (by omega) (by omega)
  rw [h1]
  simp [wide_len]
theorem text_at' {s r : List UInt8} {f : Bool} {nm : ByteArray} (h : textC s f = (nm, r, false)) : f = false ∧ s = (short nm.size ++ nm.data.toList) ++ r ∧ nm.size < 16384 := by
  unfold textC at h
  by_cases hb : (numC s f).2.2 = true ∨ (numC s f).2.1.length < (numC s f).1.toNat
  · rw [if_pos hb] at h; simp at h
  · rw [if_neg hb] at h
    simp only [Prod.mk.injEq, and_true] at h
    have hf : f = false := by
      cases f with
      | true => exact absurd (.inl rfl) hb
      | false => rfl
    subst hf
    obtain ⟨⟨v, t, g⟩, hN⟩ : ∃ y, y = numC s false := ⟨_, rfl⟩
    rw [← hN] at h hb
    simp only at h hb
    have hg : g = false := by cases g with | true => exact absurd (.inl rfl) hb | false => rfl
    subst hg
    obtain ⟨X, hX, rfl, hs⟩ := num_at' hN.symm
    simp only [Int.toNat_natCast] at h hb
    have hl : X ≤ t.length := by
      by_cases h8 : t.length < X
      · exact absurd (.inr h8) hb
      · omega
    have hd : nm.data.toList = t.take X := by rw [← h.1]
    have hz : nm.size = X := by
      have : nm.data.toList.length = nm.size := Array.length_toList
      rw [← this, hd, List.length_take]; omega
    refine ⟨rfl, ?_, by omega⟩
    rw [hs, hz, hd, ← h.2, List.append_assoc, List.take_append_drop]
theorem text_of' (nm : ByteArray) (hn : nm.size < 16384) (r : List UInt8) : textC ((short nm.size ++ nm.data.toList) ++ r) false = (nm, r, false) := by
  have hsl : nm.data.toList.length = nm.size := Array.length_toList
  have h1 := num_of' nm.size hn (nm.data.toList ++ r)
  rw [List.append_assoc]
  unfold textC
  rw [h1]
  simp only [Int.toNat_natCast]
  rw [if_neg (by rintro (h | h); · cases h
                 · simp [hsl] at h; omega)]
  rw [List.take_append_of_le_length (by omega), List.take_of_length_le (by omega), List.drop_append]
  simp [hsl]
theorem ent_at' {s r : List UInt8} {x : Ent} (h : entC s = (x, r, false)) : s = entB x ++ r ∧ (0 ≤ x.2.2 ∧ x.2.2 < 18446744073709551616) ∧ x.1.size < 16384 := by
  unfold entC at h
  obtain ⟨⟨nm, ts, tw⟩, hT⟩ : ∃ y, y = textC s false := ⟨_, rfl⟩
  rw [← hT] at h
  cases tw with
  | true => simp at h
  | false =>
    cases ts with
    | nil => simp at h
    | cons c t =>
      simp only at h
      obtain ⟨⟨v, u, g⟩, hW⟩ : ∃ y, y = wordC t (decide (1 < c.toNat)) := ⟨_, rfl⟩
      rw [← hW] at h
      simp only [Prod.mk.injEq] at h
      obtain ⟨hx, rfl, rfl⟩ := h
      obtain ⟨hc, X, hX, rfl, ht⟩ := word_at' hW.symm
      obtain ⟨_, hs, hsz⟩ := text_at' hT.symm
      subst hx
      have hc' : ¬ 1 < c.toNat := of_decide_eq_false hc
      refine ⟨?_, ⟨by show (0 : Int) ≤ (X : Int); omega, by show (X : Int) < _; omega⟩, hsz⟩
      have e : (if decide (c.toNat = 1) = true then (1 : UInt8) else 0) = c := by
        by_cases h1 : c.toNat = 1
        · simp [h1]; exact UInt8.toNat_inj.1 (by rw [h1]; rfl)
        · simp [h1]; exact UInt8.toNat_inj.1 (by simp; omega)
      unfold entB
      simp only [Int.toNat_natCast]
      rw [e, hs, ht]
      simp
theorem ent_of' (x : Ent) (h1 : x.1.size < 16384) (h2 : 0 ≤ x.2.2 ∧ x.2.2 < 18446744073709551616) (r : List UInt8) : entC (entB x ++ r) = (x, r, false) := by
  obtain ⟨nm, fo, id⟩ := x
  simp only at h1 h2
  obtain ⟨X, rfl⟩ := Int.eq_ofNat_of_zero_le h2.1
  have e : entB (nm, fo, (X : Int)) ++ r = (short nm.size ++ nm.data.toList) ++ ((if fo = true then 1 else 0) :: (wide X ++ r)) := by simp [entB]
  rw [e]
  unfold entC
  rw [text_of' nm h1]
  simp only
  have h3 : decide (1 < (if fo = true then (1 : UInt8) else 0).toNat) = false := by cases fo <;> rfl
  have h4 : decide ((if fo = true then (1 : UInt8) else 0).toNat = 1) = fo := by cases fo <;> rfl
  rw [h3, h4, word_of' X (by omega) r]
theorem ents_at' : ∀ (k : Nat) (s r : List UInt8) (f : Bool) (acc R : List Ent), entsC k s f acc = (R, r, false) → f = false ∧ ∃ M, R = acc ++ M ∧ M.length = k ∧ s = entsB M ++ r ∧ ∀ x ∈ M, (0 ≤ x.2.2 ∧ x.2.2 < 18446744073709551616) ∧ x.1.size < 16384
  | 0, s, r, f, acc, R, h => by
    simp only [entsC, Prod.mk.injEq] at h
    obtain ⟨rfl, rfl, rfl⟩ := h
    exact ⟨rfl, [], by simp, rfl, by simp [entsB], fun x hx => by simp at hx⟩
  | k + 1, s, r, f, acc, R, h => by
    unfold entsC at h
    cases f with
    | true => simp at h
    | false =>
      rw [if_neg (by simp)] at h
      obtain ⟨⟨x, u, g⟩, hE⟩ : ∃ y, y = entC s := ⟨_, rfl⟩
      rw [← hE] at h
      simp only at h
      obtain ⟨hg, M, h1, h2, h3, h4⟩ := ents_at' k u r g _ R h
      subst hg
      obtain ⟨e1, e2, e3⟩ := ent_at' hE.symm
      refine ⟨rfl, x :: M, by rw [h1]; simp, by simp [h2], by rw [e1, h3]; simp [entsB], fun y hy => ?_⟩
      rcases List.mem_cons.1 hy with rfl | hy
      · exact ⟨e2, e3⟩
      · exact h4 y hy
theorem ents_of' : ∀ (M : List Ent) (r : List UInt8) (acc : List Ent), (∀ x ∈ M, (0 ≤ x.2.2 ∧ x.2.2 < 18446744073709551616) ∧ x.1.size < 16384) → entsC M.length (entsB M ++ r) false acc = (acc ++ M, r, false)
  | [], r, acc, _ => by simp [entsC, entsB]
  | x :: M, r, acc, h => by
    have e : entsB (x :: M) ++ r = entB x ++ (entsB M ++ r) := by simp [entsB]
    rw [List.length_cons, e, entsC, if_neg (by simp), ent_of' x (h x (by simp)).2 (h x (by simp)).1]
    simp only
    rw [ents_of' M r _ (fun y hy => h y (by simp [hy]))]
    simp
theorem decG_of {o : Ob} (ok : ObOk o) (h0 : obErr o = 0) : decG (obB o) = some o := by
  have := decR_obB o ok []
  rw [List.append_nil] at this
  unfold decG
  rw [this]
  cases o <;> simp [h0]
theorem tree_iff (l : List UInt8) (hl : l.length ≤ 549755813888) (R : List Ent) : treeC l = some R ↔ decG l = some (.tree R) := by
  constructor
  · intro h
    unfold treeC at h
    by_cases hh : l.head? = some 116
    · rw [if_pos hh] at h
      obtain ⟨t, rfl⟩ : ∃ t, l = 116 :: t := by
        cases l with
        | nil => simp at hh
        | cons x t => simp at hh; subst hh; exact ⟨t, rfl⟩
      simp only [List.drop_succ_cons, List.drop_zero] at h
      obtain ⟨⟨v, us, uw⟩, hN⟩ : ∃ y, y = numC t false := ⟨_, rfl⟩
      rw [← hN] at h
      simp only at h
      obtain ⟨⟨P, r, g⟩, hE⟩ : ∃ y, y = entsC v.toNat us uw [] := ⟨_, rfl⟩
      rw [← hE] at h
      simp only at h
      by_cases hq : g = true ∨ r ≠ [] ∨ treeErrs P ≠ 0
      · rw [if_pos hq] at h; cases h
      · rw [if_neg hq] at h
        cases h
        have hg : g = false := by cases g with | true => exact absurd (.inl rfl) hq | false => rfl
        have hr : r = [] := by
          by_cases hr : r = []
          · exact hr
          · exact absurd (.inr (.inl hr)) hq
        have h0 : treeErrs R = 0 := by
          by_cases h0 : treeErrs R = 0
          · exact h0
          · exact absurd (.inr (.inr h0)) hq
        subst hg hr
        obtain ⟨hu, M, h1, h2, h3, h4⟩ := ents_at' _ _ _ _ _ _ hE.symm
        subst hu
        simp only [List.nil_append, List.append_nil] at h1 h3
        subst h1
        obtain ⟨X, hX, rfl, ht⟩ := num_at' hN.symm
        simp only [Int.toNat_natCast] at h2
        have hf : Fields R := ⟨fun j x hx => by have := (h4 x (List.mem_of_getElem? hx)).2; unfold maxLen; omega, fun j x hx => (h4 x (List.mem_of_getElem? hx)).1⟩
        obtain ⟨f1, f2⟩ := fits_of hf h0
        have ok : ObOk (.tree R) := ⟨fun x hx => by
          obtain ⟨j, hj⟩ := List.mem_iff_getElem?.1 hx
          exact ⟨f2.name j x hj, f2.id j x hj⟩, by omega⟩
        have e : 116 :: t = obB (.tree R) := by rw [ht, h3, ← h2]; rfl
        rw [e]
        exact decG_of ok h0
    · rw [if_neg hh] at h; cases h
  · intro h
    obtain ⟨h1, h2, h3, h4⟩ := decG_some h hl
    have h0 : treeErrs R = 0 := h2
    have hf : Fields R := fields_ok h4.1
    obtain ⟨f1, f2⟩ := fits_of hf h0
    rw [← h3]
    unfold treeC
    have e : obB (.tree R) = 116 :: (short R.length ++ (entsB R ++ [])) := by simp [obB, treeB]
    rw [e]
    simp only [List.drop_succ_cons, List.drop_zero]
    rw [if_pos (by rfl), num_of' R.length (by omega)]
    simp only [Int.toNat_natCast]
    rw [ents_of' R [] [] (fun x hx => by
      have := h4.1 x hx
      exact ⟨this.2, by have := this.1; omega⟩)]
    simp [h0]
theorem pars_at' : ∀ (k : Nat) (s r : List UInt8) (f : Bool) (acc R : List Int), parsC k s f acc = (R, r, false) → f = false ∧ ∃ M, R = acc ++ M ∧ M.length = k ∧ s = parsB M ++ r ∧ ∀ x ∈ M, 0 ≤ x ∧ x < 18446744073709551616
  | 0, s, r, f, acc, R, h => by
    simp only [parsC, Prod.mk.injEq] at h
    obtain ⟨rfl, rfl, rfl⟩ := h
    exact ⟨rfl, [], by simp, rfl, by simp [parsB], fun x hx => by simp at hx⟩
  | k + 1, s, r, f, acc, R, h => by
    unfold parsC at h
    cases f with
    | true => simp at h
    | false =>
      rw [if_neg (by simp)] at h
      obtain ⟨⟨v, u, g⟩, hE⟩ : ∃ y, y = wordC s false := ⟨_, rfl⟩
      rw [← hE] at h
      simp only at h
      obtain ⟨hg, M, h1, h2, h3, h4⟩ := pars_at' k u r g _ R h
      subst hg
      obtain ⟨_, X, hX, rfl, hs⟩ := word_at' hE.symm
      refine ⟨rfl, (X : Int) :: M, by rw [h1]; simp, by simp [h2], by rw [hs, h3]; simp [parsB], fun y hy => ?_⟩
      rcases List.mem_cons.1 hy with rfl | hy
      · omega
      · exact h4 y hy
theorem pars_of' : ∀ (M : List Int) (r : List UInt8) (acc : List Int), (∀ x ∈ M, 0 ≤ x ∧ x < 18446744073709551616) → parsC M.length (parsB M ++ r) false acc = (acc ++ M, r, false)
  | [], r, acc, _ => by simp [parsC, parsB]
  | x :: M, r, acc, h => by
    obtain ⟨o1, o2⟩ := h x (by simp)
    obtain ⟨X, rfl⟩ := Int.eq_ofNat_of_zero_le o1
    have e : parsB ((X : Int) :: M) ++ r = wide X ++ (parsB M ++ r) := by simp [parsB]
    rw [List.length_cons, e, parsC, if_neg (by simp), word_of' X (by omega)]
    simp only
    rw [pars_of' M r _ (fun y hy => h y (by simp [hy]))]
    simp
theorem com_iff (l : List UInt8) (hl : l.length ≤ 549755813888) (c : ComD) : comC l = some c ↔ decG l = some (.com c) := by
  constructor
  · intro h
    unfold comC at h
    by_cases hh : l.head? = some 99
    · rw [if_pos hh] at h
      obtain ⟨t, rfl⟩ : ∃ t, l = 99 :: t := by
        cases l with
        | nil => simp at hh
        | cons x t => simp at hh; subst hh; exact ⟨t, rfl⟩
      simp only [List.drop_succ_cons, List.drop_zero] at h
      by_cases hq : (comC0 t).2.2 = true ∨ (comC0 t).2.1 ≠ [] ∨ comErr (comC0 t).1.1 (comC0 t).1.2.1 (comC0 t).1.2.2.1 (comC0 t).1.2.2.2.2 ≠ 0
      · rw [if_pos hq] at h; cases h
      · rw [if_neg hq] at h
        simp only [Option.some.injEq] at h
        rw [h] at hq
        have hg : (comC0 t).2.2 = false := by
          cases hb : (comC0 t).2.2 with
          | true => exact absurd (.inl hb) hq
          | false => rfl
        have hr : (comC0 t).2.1 = [] := by
          by_cases hr : (comC0 t).2.1 = []
          · exact hr
          · exact absurd (.inr (.inl hr)) hq
        have h0 : comErr c.1 c.2.1 c.2.2.1 c.2.2.2.2 = 0 := by
          by_cases h0 : comErr c.1 c.2.1 c.2.2.1 c.2.2.2.2 = 0
          · exact h0
          · exact absurd (.inr (.inr h0)) hq
        clear hq
        unfold comC0 at h hg hr
        simp only at h hg hr
        obtain ⟨⟨tv, s1, f1⟩, e1⟩ : ∃ y, y = wordC t false := ⟨_, rfl⟩
        rw [← e1] at h hg hr
        simp only at h hg hr
        obtain ⟨⟨uv, s2, f2⟩, e2⟩ : ∃ y, y = numC s1 f1 := ⟨_, rfl⟩
        rw [← e2] at h hg hr
        simp only at h hg hr
        obtain ⟨⟨ps, s3, f3⟩, e3⟩ : ∃ y, y = parsC uv.toNat s2 f2 [] := ⟨_, rfl⟩
        rw [← e3] at h hg hr
        simp only at h hg hr
        obtain ⟨⟨av, s4, f4⟩, e4⟩ : ∃ y, y = textC s3 f3 := ⟨_, rfl⟩
        rw [← e4] at h hg hr
        simp only at h hg hr
        obtain ⟨⟨dv, s5, f5⟩, e5⟩ : ∃ y, y = wordC s4 f4 := ⟨_, rfl⟩
        rw [← e5] at h hg hr
        simp only at h hg hr
        obtain ⟨⟨xv, s6, f6⟩, e6⟩ : ∃ y, y = textC s5 f5 := ⟨_, rfl⟩
        rw [← e6] at h hg hr
        simp only at h hg hr
        subst hg hr
        obtain ⟨rfl, g6, _⟩ := text_at' e6.symm
        obtain ⟨rfl, Dn, hDn, rfl, g5⟩ := word_at' e5.symm
        obtain ⟨rfl, g4, _⟩ := text_at' e4.symm
        obtain ⟨rfl, M, m1, m2, g3, m4⟩ := pars_at' _ _ _ _ _ _ e3.symm
        have hf1 : f1 = false := by
          cases f1 with
          | true => unfold numC at e2; simp at e2
          | false => rfl
        subst hf1
        obtain ⟨X, hX, rfl, g2⟩ := num_at' e2.symm
        obtain ⟨_, Y, hY, rfl, g1⟩ := word_at' e1.symm
        simp only [List.nil_append, Int.toNat_natCast] at m1 m2
        subst m1
        subst h
        simp only at h0
        obtain ⟨w1, w2, w3⟩ := du_wrap Dn hDn
        obtain ⟨k0, k1, k2, k3⟩ := com_fits h0
        have ok : ObOk (.com ((Y : Int), ps, av, wrap64 (Dn : Int), xv)) := ⟨by show (0 : Int) ≤ (Y : Int) ∧ (Y : Int) < _; omega, m4, by show ps.length < _; omega, k2, ⟨w2, w3⟩, k3⟩
        have e : 99 :: t = obB (.com ((Y : Int), ps, av, wrap64 (Dn : Int), xv)) := by
          rw [g1, g2, g3, g4, g5, g6, ← m2]
          simp [obB, comBB, comB, w1]
        rw [e]
        exact decG_of ok h0
    · rw [if_neg hh] at h; cases h
  · intro h
    obtain ⟨h1, h2, h3, h4⟩ := decG_some h hl
    obtain ⟨tv, ps, av, dv, xv⟩ := c
    have h0 : comErr tv ps av xv = 0 := h2
    obtain ⟨o1, o2, o3, o4, o5, o6⟩ := h4
    simp only at o1 o2 o3 o4 o5 o6
    obtain ⟨k0, k1, k2, k3⟩ := com_fits h0
    obtain ⟨Y, rfl⟩ := Int.eq_ofNat_of_zero_le o1.1
    have e : obB (.com ((Y : Int), ps, av, dv, xv)) = 99 :: (wide Y ++ (short ps.length ++ (parsB ps ++ ((short av.size ++ av.data.toList) ++ (wide (du dv) ++ ((short xv.size ++ xv.data.toList) ++ [])))))) := by simp [obB, comBB, comB]
    have hcc : comC0 (wide Y ++ (short ps.length ++ (parsB ps ++ ((short av.size ++ av.data.toList) ++ (wide (du dv) ++ ((short xv.size ++ xv.data.toList) ++ [])))))) = (((Y : Int), ps, av, dv, xv), [], false) := by
      unfold comC0
      simp only
      rw [word_of' Y (by omega)]
      simp only
      rw [num_of' ps.length (by omega)]
      simp only [Int.toNat_natCast]
      rw [pars_of' ps _ [] o2]
      simp only
      rw [text_of' av (by omega)]
      simp only
      rw [word_of' (du dv) (du_eq dv).2]
      simp only
      rw [text_of' xv (by omega), wrap_du dv o5]
      simp
    rw [← h3, e]
    unfold comC
    simp only [List.drop_succ_cons, List.drop_zero]
    rw [if_pos (by rfl), hcc]
    simp [h0]
end Go.Proofs.Ytdibdcbihleflaa

/- Which bytes the document calls right; what Decode answers lies in memory of its own. -/
namespace Go.Proofs.Ytdibdcbihleflaa
open Go.RowKit

attribute [local go_sem] Oper.semAt_some

def Z5o : Obj := .cells #[.int .u64 0, .slice none 0 0, .string ⟨#[]⟩, .int .i64 0, .string ⟨#[]⟩] 42
set_option maxHeartbeats 2000000 in
theorem right_tree (a : Option Addr) (n c : Nat) (l : List UInt8) (w : World) (hb : Bytes w a n l) (hnc : n ≤ c) (hsm : n ≤ 40000) (R : List Ent) (hT : treeC l = some R) (hC : comC l = none) :
    Calls Try.prog 26 #[.slice a n c] w fun e w' => e = .returned (.bool true) ∧ Below w.heap.size w w' := by
  have h1 := refAsTree_any a n c l w hb hnc hsm
  rw [hT] at h1
  have H2 : Hid (∀ W, Below w.heap.size w W → Calls Try.prog 28 #[.slice a n c] W fun e w' => e = .returned (.tuple #[cmt 0 none 0 0 ⟨#[]⟩ 0 ⟨#[]⟩, .bool false]) ∧ Below W.heap.size W w') := fun W hB => by
    have := refAsCommit_any a n c l W (bytes_below hb hB) hnc hsm
    rw [hC] at this
    exact this
  clear hb hT hC
  go_enter Try.func26, Try.ntmps26
  go_wp2_with first
    | (go_at_call 27; refine h1.mono ?_; clear h1; rintro e w1 ⟨hx, hB1⟩; obtain ⟨ad, cp, hy, _⟩ := hx; subst hy)
    | (go_at_call 28; refine (H2.out _ hB1).mono ?_; clear H2; rintro e w2 ⟨rfl, hB2⟩)
  go_ret
  exact ⟨rfl, (hB1.trans (hB2.mono hB1.size)).alloc (by have := hB1.size; have := hB2.size; omega) _⟩
set_option maxHeartbeats 2000000 in
theorem right_com (a : Option Addr) (n c : Nat) (l : List UInt8) (w : World) (hb : Bytes w a n l) (hnc : n ≤ c) (hsm : n ≤ 40000) (cc : ComD) (hT : treeC l = none) (hC : comC l = some cc) :
    Calls Try.prog 26 #[.slice a n c] w fun e w' => e = .returned (.bool true) ∧ Below w.heap.size w w' := by
  have h1 := refAsTree_any a n c l w hb hnc hsm
  rw [hT] at h1
  have h1' : Calls Try.prog 27 #[.slice a n c] w fun e w' => e = .returned (.tuple #[.slice none 0 0, .bool false]) ∧ Below w.heap.size w w' := h1
  obtain ⟨c1, c2, c3, c4, c5⟩ := cc
  have H2 : Hid (∀ W, Below w.heap.size w W → Calls Try.prog 28 #[.slice a n c] W fun e w' => (∃ ad cp, e = .returned (.tuple #[cmt c1 ad c2.length cp c3 c4 c5, .bool true])) ∧ Below W.heap.size W w') := fun W hB => by
    have := refAsCommit_any a n c l W (bytes_below hb hB) hnc hsm
    rw [hC] at this
    refine this.mono fun e w' hx => ⟨?_, hx.2⟩
    obtain ⟨ad, cp, h, _⟩ := hx.1
    exact ⟨ad, cp, h⟩
  clear hb hT hC h1
  go_enter Try.func26, Try.ntmps26
  go_wp2_with first
    | (go_at_call 27; refine h1'.mono ?_; clear h1'; rintro e w1 ⟨rfl, hB1⟩)
    | (go_at_call 28; refine (H2.out _ hB1).mono ?_; clear H2; rintro e w2 ⟨⟨ad, cp, rfl⟩, hB2⟩)
  go_ret
  exact ⟨rfl, (hB1.trans (hB2.mono hB1.size)).alloc (by have := hB1.size; have := hB2.size; omega) _⟩
/-- neither a tree nor a commit -/
theorem right_none (a : Option Addr) (n c : Nat) (l : List UInt8) (w : World) (hb : Bytes w a n l) (hnc : n ≤ c) (hsm : n ≤ 40000) (hT : treeC l = none) (hC : comC l = none) :
    Calls Try.prog 26 #[.slice a n c] w fun e w' => e = .returned (.bool (decide (l.head? = some 98) && decide (n ≤ 4097))) ∧ Below w.heap.size w w' := by
  have h1 := refAsTree_any a n c l w hb hnc hsm
  rw [hT] at h1
  have h1' : Calls Try.prog 27 #[.slice a n c] w fun e w' => e = .returned (.tuple #[.slice none 0 0, .bool false]) ∧ Below w.heap.size w w' := h1
  have H2 : Hid (∀ W, Below w.heap.size w W → Calls Try.prog 28 #[.slice a n c] W fun e w' => e = .returned (.tuple #[cmt 0 none 0 0 ⟨#[]⟩ 0 ⟨#[]⟩, .bool false]) ∧ Below W.heap.size W w') := fun W hB => by
    have := refAsCommit_any a n c l W (bytes_below hb hB) hnc hsm
    rw [hC] at this
    exact this
  have HB : Hid (Bytes w a n l) := hb
  have hl := hb.1
  clear hb hT hC h1
  cases l with
  | nil =>
    have h0 : n = 0 := by simpa using hl.symm
    subst h0
    go_enter Try.func26, Try.ntmps26
    go_wp2_with first
      | (go_at_call 27; refine h1'.mono ?_; clear h1'; rintro e w1 ⟨rfl, hB1⟩)
      | (go_at_call 28; refine (H2.out _ hB1).mono ?_; clear H2; rintro e w2 ⟨rfl, hB2⟩)
    go_ret
    exact ⟨rfl, (hB1.trans (hB2.mono hB1.size)).alloc (by have := hB1.size; have := hB2.size; omega) _⟩
  | cons x t =>
    obtain ⟨n', rfl⟩ : ∃ n', n = n' + 1 := ⟨t.length, by simpa using hl.symm⟩
    obtain ⟨bk, off0, rfl, hc⟩ := HB.out.2 (by omega)
    have hcell := head_cell HB.out (x := x) rfl
    have hlt : bk < w.heap.size := World.block_lt_of_cell? w _ hcell
    have HCE : Hid (∀ W, Below w.heap.size w W → W.cell? ⟨bk, off0, none⟩ = some (.int .u8 (x.toNat : Int))) := fun W hB => (World.cell?_of_block (hB.block _ hlt)).trans hcell
    have i0 : (0 : Int) < (n' : Int) + 1 := by omega
    have hhx : ((x :: t).head? = some 98) ↔ x.toNat = 98 := by
      simp
      constructor
      · rintro rfl; rfl
      · intro h; exact UInt8.toNat_inj.1 (by rw [h]; rfl)
    clear hcell hc HB hl
    by_cases hx : x.toNat = 98
    · have e1 : decide ((x :: t).head? = some 98) = true := decide_eq_true (hhx.2 hx)
      rw [e1]
      have z1 : ((x.toNat : Int) == 98) = true := by simp [hx]
      by_cases hn : n' + 1 ≤ 4097
      · have d1 : decide (n' + 1 ≤ 4097) = true := decide_eq_true hn
        rw [d1]
        have i1 : (n' : Int) + 1 ≤ 4097 := by omega
        have d2 : decide ((n' : Int) + 1 ≤ 4097) = true := decide_eq_true i1
        go_enter Try.func26, Try.ntmps26
        go_wp2_with first
          | (go_at_call 27; refine h1'.mono ?_; clear h1'; rintro e w1 ⟨rfl, hB1⟩)
          | (go_at_call 28; refine (H2.out _ hB1).mono ?_; clear H2; rintro e w2 ⟨rfl, hB2⟩; have B2 : Below w.heap.size w (w2.alloc Z5o) := (hB1.trans (hB2.mono hB1.size)).alloc (by have := hB1.size; have := hB2.size; omega) _; have cx := HCE.out _ B2; unfold Z5o at cx)
        go_ret
        exact ⟨rfl, B2⟩
      · have d1 : decide (n' + 1 ≤ 4097) = false := decide_eq_false hn
        rw [d1]
        have i1 : ¬ (n' : Int) + 1 ≤ 4097 := by omega
        have d2 : decide ((n' : Int) + 1 ≤ 4097) = false := decide_eq_false i1
        go_enter Try.func26, Try.ntmps26
        go_wp2_with first
          | (go_at_call 27; refine h1'.mono ?_; clear h1'; rintro e w1 ⟨rfl, hB1⟩)
          | (go_at_call 28; refine (H2.out _ hB1).mono ?_; clear H2; rintro e w2 ⟨rfl, hB2⟩; have B2 : Below w.heap.size w (w2.alloc Z5o) := (hB1.trans (hB2.mono hB1.size)).alloc (by have := hB1.size; have := hB2.size; omega) _; have cx := HCE.out _ B2; unfold Z5o at cx)
        go_ret
        exact ⟨rfl, B2⟩
    · have e1 : decide ((x :: t).head? = some 98) = false := decide_eq_false (fun h => hx (hhx.1 h))
      rw [e1]
      have z1 : ((x.toNat : Int) == 98) = false := by simp; omega
      have z2 : ¬ (x.toNat : Int) = 98 := by omega
      go_enter Try.func26, Try.ntmps26
      go_wp2_with first
        | (go_at_call 27; refine h1'.mono ?_; clear h1'; rintro e w1 ⟨rfl, hB1⟩)
        | (go_at_call 28; refine (H2.out _ hB1).mono ?_; clear H2; rintro e w2 ⟨rfl, hB2⟩; have B2 : Below w.heap.size w (w2.alloc Z5o) := (hB1.trans (hB2.mono hB1.size)).alloc (by have := hB1.size; have := hB2.size; omega) _; have cx := HCE.out _ B2; unfold Z5o at cx)
      go_ret
      exact ⟨rfl, B2⟩
theorem blob_iff (l : List UInt8) (hl : l.length ≤ 549755813888) (hT : treeC l = none) (hC : comC l = none) : (decide (l.head? = some 98) && decide (l.length ≤ 4097)) = (decG l).isSome := by
  cases hd : decG l with
  | none =>
    rw [Option.isSome_none]
    by_cases hh : l.head? = some 98
    · by_cases hn : l.length ≤ 4097
      · exfalso
        cases l with
        | nil => simp at hh
        | cons x t =>
          simp at hh; subst hh
          have h1 : decG (obB (.blob t)) = some (.blob t) := decG_of trivial (by
            show blobErr t.length = 0
            unfold blobErr
            simp at hn
            rw [if_neg (by omega)])
          have e : obB (.blob t) = 98 :: t := rfl
          rw [e, hd] at h1
          cases h1
      · simp [hn]
    · simp [hh]
  | some o =>
    obtain ⟨h1, h2, h3, h4⟩ := decG_some hd hl
    cases o with
    | blob b =>
      rw [← h3]
      have h0 : blobErr b.length = 0 := h2
      unfold blobErr at h0
      split at h0
      · omega
      · simp [obB]; omega
    | tree R => rw [(tree_iff l hl R).2 hd] at hT; cases hT
    | com c => rw [(com_iff l hl c).2 hd] at hC; cases hC
theorem refRight_any (a : Option Addr) (n c : Nat) (l : List UInt8) (w : World) (hb : Bytes w a n l) (hnc : n ≤ c) (hsm : n ≤ 40000) :
    Calls Try.prog 26 #[.slice a n c] w fun e w' => e = .returned (.bool (decG l).isSome) ∧ Below w.heap.size w w' := by
  have hl := hb.1
  have hl' : l.length ≤ 549755813888 := by omega
  cases hT : treeC l with
  | some R =>
    have hd := (tree_iff l hl' R).1 hT
    have hC : comC l = none := by
      cases hC : comC l with
      | none => rfl
      | some cc => rw [(com_iff l hl' cc).1 hC] at hd; cases hd
    rw [hd]
    exact right_tree a n c l w hb hnc hsm R hT hC
  | none =>
    cases hC : comC l with
    | some cc =>
      rw [(com_iff l hl' cc).1 hC]
      exact right_com a n c l w hb hnc hsm cc hT hC
    | none =>
      have := right_none a n c l w hb hnc hsm hT hC
      rw [← blob_iff l hl' hT hC, hl]
      exact this
end Go.Proofs.Ytdibdcbihleflaa

/- What Decode answers lies in memory of its own. -/
namespace Go.Proofs.Ytdibdcbihleflaa
open Go.RowKit

attribute [local go_sem] Oper.semAt_some

theorem raw_fresh (w : World) (r g p m n : Nat) (l : List UInt8) (h : Rd w r g p 0 l) (hm : l.length = p + m) (hn : n ≤ m) (hlim : m ≤ 281474976710656) :
    Calls Try.prog 68 #[.pointer (some ⟨r, 0, none⟩), .int .i64 n] w fun e w' => ∃ b c, e = .returned (.slice (some ⟨b, 0, none⟩) n c) ∧ w.heap.size ≤ b ∧ Bytes w' (some ⟨b, 0, none⟩) n ((l.drop p).take n) ∧ Rd w' r g (p + n) 0 l ∧ w.grownBy w' (some r) := by
  have Hm : Hid (l.length = p + m) := hm
  clear hm
  go_enter Try.func68, Try.ntmps68
  go_wp2_with fail
  refine (take_yes _ r g p m n l h Hm.out hn).mono ?_
  rintro e w1 ⟨a, c, rfl, hb, hr, hg⟩
  go_wp2_with fail
  refine (withRoom_any a n c 0 _ _ hb (by omega)).mono ?_
  rintro e w2 ⟨rfl, hown, hg2⟩
  go_wp2
  go_ret
  refine ⟨_, _, rfl, hg.size, (ownsRow_bytes hown).1, hr.kept hg2 (by simp) (by simp), grownBy_trans hg (grownBy_wide hg2)⟩
/-- an object that lies in memory of its own -/
def ObF (B : Nat) : Ob → Value → World → Prop
  | .blob b, v, W => ∃ g cp, v = .iface 25 (.agg #[.slice (some ⟨g, 0, none⟩) b.length cp]) ∧ Bytes W (some ⟨g, 0, none⟩) b.length b ∧ B ≤ g
  | .tree l, v, W => ∃ ad cp, v = trV ad l.length cp ∧ W.ownsRow B 50 3 (.slice ad l.length cp) l.length (entCells l)
  | .com c, v, W => ∃ ad cp, v = coV c.1 ad c.2.1.length cp c.2.2.1 c.2.2.2.1 c.2.2.2.2 ∧ W.ownsRow B 39 1 (.slice ad c.2.1.length cp) c.2.1.length (c.2.1.map (Value.int .u64))
theorem ObF.grown {B r : Nat} {o : Ob} {v : Value} {W W' : World} (h : ObF B o v W) (hg : W.grownBy W' (some r)) (hr : r < B) : ObF B o v W' := by
  cases o with
  | blob b => obtain ⟨g, cp, h1, h2, h3⟩ := h; exact ⟨g, cp, h1, h2.kept hg (fun x hx => by cases hx; simp; omega), h3⟩
  | tree l => obtain ⟨ad, cp, h1, h2⟩ := h; exact ⟨ad, cp, h1, own_grown h2 hg hr⟩
  | com c => obtain ⟨ad, cp, h1, h2⟩ := h; exact ⟨ad, cp, h1, own_grown h2 hg hr⟩
theorem ObF.below {B : Nat} {o : Ob} {v : Value} {W W' : World} (h : ObF B o v W) (hB : Below W.heap.size W W') : ObF B o v W' := by
  cases o with
  | blob b => obtain ⟨g, cp, h1, h2, h3⟩ := h; exact ⟨g, cp, h1, bytes_below h2 hB, h3⟩
  | tree l => obtain ⟨ad, cp, h1, h2⟩ := h; exact ⟨ad, cp, h1, row_keep h2 hB⟩
  | com c => obtain ⟨ad, cp, h1, h2⟩ := h; exact ⟨ad, cp, h1, row_keep h2 hB⟩
theorem ObF.at_ {w w' : World} {o : Ob} {v : Value} (h : ObF w.heap.size o v w') (ok : ObOk o) (hs : (obB o).length ≤ 549755813888) : ObAt o v w' := by
  have hd : DecOut w (some o) (.returned v) w' := by
    cases o with
    | blob b => obtain ⟨g, cp, h1, h2, _⟩ := h; exact ⟨_, cp, by rw [h1], h2⟩
    | tree l => obtain ⟨ad, cp, h1, h2⟩ := h; exact ⟨ad, cp, by rw [h1], h2⟩
    | com c => obtain ⟨ad, cp, h1, h2⟩ := h; exact ⟨ad, cp, by rw [h1], h2⟩
  obtain ⟨v', hv, h'⟩ := dec_at hd ok hs
  cases hv
  exact h'
set_option maxRecDepth 20000 in
set_option maxHeartbeats 4000000 in
theorem decode_blobF (a : Option Addr) (n cap : Nat) (b : List UInt8) (w : World) (hb : Bytes w a n (98 :: b)) (hn : n ≤ 549755813888) :
    Calls Try.prog 49 #[.slice a n cap] w fun x w' => (∃ v, x = .returned v ∧ ObF w.heap.size (.blob b) v w') ∧ Below w.heap.size w w' := by
  have hrd := oread_any a n cap (98 :: b) w hb (by omega)
  have hll := hb.1
  have HB : Hid (byteR (98 :: b) 0 0 = (98, 1, 0)) := byte_of (l := 98 :: b) (p := 0) (c := 98) (r := b) rfl
  obtain ⟨m, hm⟩ : ∃ m, m = b.length := ⟨_, rfl⟩
  have Hm : Hid ((98 :: b).length = 1 + m) := (by rw [hm]; simp; omega : (98 :: b).length = 1 + m)
  have hm2 : m ≤ 549755813888 := by simp at hll; omega
  have HMB : Hid (m = b.length) := hm
  generalize hL : 98 :: b = L at *
  have HL : Hid (98 :: b = L) := hL
  clear hm hll hb hL
  go_enter Try.func49, Try.ntmps49
  go_wp2_with first
    | (go_at_call 66; refine hrd.mono ?_; clear hrd; rintro y w1 ⟨r, g, rfl, hr, hg, hR1, hG1⟩; have B1 : Hid (Below w.heap.size w w1) := ⟨hG1.os, hG1.tape, hG1.output, hG1.size, fun k hk => hG1.block k hk (by simp)⟩; have hby := byte_st w1 r g 0 0 L hR1; rw [HB.out] at hby; clear hR1 hG1)
    | (go_at_call 67; refine hby.mono ?_; clear hby; rintro y w2 ⟨rfl, hR2, hG2⟩; have R2 : Hid (Rd w2 r g 1 0 L ∧ Below w.heap.size w w2) := ⟨hR2, below_of_gr B1.out hG2 hr⟩; clear hR2 hG2 B1)
    | (go_at_call 69; refine (left_any _ r g 1 m 0 L R2.out.1 Hm.out).mono ?_; rintro y w3 ⟨rfl, kk, hw3⟩; have R3 : Hid (Rd w3 r g 1 0 L ∧ Below w.heap.size w w3) := ⟨by rw [hw3]; exact R2.out.1.drewN kk, by rw [hw3]; exact below_drewN R2.out.2 kk⟩; clear hw3 R2)
    | (go_at_call 68; refine (raw_fresh _ r g 1 m m L R3.out.1 Hm.out (Nat.le_refl _) (by omega)).mono ?_; rintro y w4 ⟨gb, cp, rfl, hfr, hy4, hR4, hG4⟩; have R4 : Hid (Rd w4 r g (1 + m) 0 L ∧ Below w.heap.size w w4 ∧ Bytes w4 (some ⟨gb, 0, none⟩) m ((L.drop 1).take m) ∧ w.heap.size ≤ gb) := ⟨hR4, below_of_gr R3.out.2 hG4 hr, hy4, Nat.le_trans R3.out.2.size hfr⟩; clear hR4 hG4 hy4 R3 hfr)
    | (go_at_call 72; refine (end_st _ r g _ _ L R4.out.1).mono ?_; rintro y w5 ⟨z, rfl, hz, hB5⟩; obtain rfl : z = 0 := hz.2 ⟨rfl, Hm.out.symm⟩; have R5 : Hid (Below w.heap.size w w5 ∧ Bytes w5 (some ⟨gb, 0, none⟩) m ((L.drop 1).take m) ∧ w.heap.size ≤ gb) := ⟨R4.out.2.1.trans (hB5.mono R4.out.2.1.size), bytes_below R4.out.2.2.1 hB5, R4.out.2.2.2⟩; clear hz hB5 R4)
  go_ret
  have h2 := R5.out.2.1
  rw [← HL.out] at h2
  have e : ((98 :: b).drop 1).take m = b := by rw [HMB.out]; simp
  rw [e, HMB.out] at h2
  exact ⟨⟨_, rfl, gb, cp, by rw [← HMB.out]; rfl, h2, R5.out.2.2⟩, R5.out.1⟩
theorem Decode_F (a : Option Addr) (n cap : Nat) (l : List UInt8) (w : World) (hb : Bytes w a n l) (hn : n ≤ 549755813888) (o : Ob) (hd : decG l = some o) :
    Calls Try.prog 23 #[.slice a n cap] w fun x w' => (∃ v, x = .returned (.tuple #[v, .int .i64 0]) ∧ ObF w.heap.size o v w') ∧ Below w.heap.size w w' := by
  have hll := hb.1
  obtain ⟨h1, h2, h3, h4⟩ := decG_some hd (by omega)
  have hde : Calls Try.prog 49 #[.slice a n cap] w fun x w' => (∃ v, x = .returned v ∧ ObF w.heap.size o v w') ∧ Below w.heap.size w w' := by
    have hx := decode_any a n cap l w hb hn
    rw [h1] at hx
    cases o with
    | blob b =>
      have e : l = 98 :: b := h3.symm
      subst e
      exact decode_blobF a n cap b w hb hn
    | tree R =>
      refine hx.mono fun x w' hx => ⟨?_, hx.2⟩
      obtain ⟨ad, cp, hv, ho⟩ := hx.1
      exact ⟨_, hv, ad, cp, rfl, ho⟩
    | com c =>
      refine hx.mono fun x w' hx => ⟨?_, hx.2⟩
      obtain ⟨ad, cp, hv, ho⟩ := hx.1
      exact ⟨_, hv, ad, cp, rfl, ho⟩
  have HK : Hid (∀ W v, ObF w.heap.size o v W → Calls Try.prog 50 #[v] W fun e w' => e = .returned (.int .i64 0) ∧ Below W.heap.size W w') := fun W v h => by
    have := check_ob W (h.at_ h4 (by rw [h3]; omega))
    rw [h2] at this
    exact this
  clear hb hd h1 h2 h3 h4 hll
  go_enter Try.func23, Try.ntmps23
  go_wp2_with first
    | (go_at_call 49; refine hde.mono ?_; clear hde; rintro y w1 ⟨⟨v, rfl, hO1⟩, hB1⟩)
    | (go_at_call 50; refine (HK.out _ _ hO1).mono ?_; rintro y w2 ⟨rfl, hB2⟩)
  go_ret2
  exact ⟨⟨v, rfl, hO1.below hB2⟩, hB1.trans (hB2.mono hB1.size)⟩
end Go.Proofs.Ytdibdcbihleflaa

/- The walk of the law ObjectDecodes. -/
namespace Go.Proofs.Ytdibdcbihleflaa
open Go.RowKit

attribute [local go_sem] Oper.semAt_some

theorem run_minR (ty : TypeId) (n k : Nat) (w : World) : (Builtin.min_ #[3, 3] ty #[.int .i64 (n : Int), .int .i64 (k : Int)]).run Try.prog w = .ok (.int .i64 ((min n k : Nat) : Int)) w := by
  have hm : (min n k : Nat) = if k < n then k else n := by split <;> omega
  rw [hm]
  by_cases hkn : k < n
  · have i1 : (k : Int) < (n : Int) := by omega
    rw [if_pos hkn]
    simp [Builtin.min_, Builtin.min2, go_sem, i1]
  · have i1 : ¬ (k : Int) < (n : Int) := by omega
    rw [if_neg hkn]
    simp [Builtin.min_, Builtin.min2, go_sem, i1]
theorem wpList_minR (w : World) {ops : Array Oper} {rest : List Oper} {o : Oper} {a : Act} {Q : Exit → Act → World → Prop} (hgd : o.guard = none) (x y : Operand)
    (ho : o.op = .call { callee := .builtin .min, args := #[x, y], argTypes := #[3, 3] }) (n k : Nat) (K : Int) (hx : a.eval x = .int .i64 (n : Int)) (hy : a.eval y = .int .i64 K) (hk : K = (k : Int))
    (h : wpList Try.prog ops Q rest (a.put o.dst (.int .i64 ((min n k : Nat) : Int))) w) : wpList Try.prog ops Q (o :: rest) a w := by
  refine wpList_plain hgd fun K hK => ?_
  subst hk
  unfold Oper.wp execOp
  simp only [ho, resolve, invoke, builtin, Sem.run_bind, Sem.run_pure, Result.andThen_ok, List.map_toArray, List.map_cons, List.map_nil, hx, hy, run_minR]
  exact hK _ _ h


def OwnX (B : Nat) (v : Value) (n : Nat) (W : World) : Prop := ∃ xs, W.ownsRow B 5 1 v n xs ∧ ∀ x ∈ xs, ∃ z, x = .int .u8 z
theorem own_addrR {W : World} {B n c : Nat} {ad : Option Addr} {xs : List Value} (h : W.ownsRow B 5 1 (.slice ad n c) n xs) (h0 : 0 < n) : ∃ g, ad = some ⟨g, 0, none⟩ := by
  rcases h.2 with ⟨h', h0⟩ | ⟨g, cap, cur, h', _⟩
  · omega
  · exact ⟨g, by cases h'; rfl⟩
/-- while the copy's bytes are written: the copy's row, the object, the rest -/
structure DI (w : World) (m B1 B2 : Nat) (oa : Option Addr) (oc : Nat) (o : Ob) (v : Value) (W : World) : Prop where
  le : w.heap.size ≤ B1
  own : OwnX B1 (.slice oa m oc) m W
  bel : Below w.heap.size w W
  obj : ObF B2 o v W
  lt : ∀ ad, oa = some ad → ad.block < B2
theorem DI.below {w : World} {m B1 B2 : Nat} {oa : Option Addr} {oc : Nat} {o : Ob} {v : Value} {W W' : World} (h : DI w m B1 B2 oa oc o v W) (hB : Below W.heap.size W W') : DI w m B1 B2 oa oc o v W' := by
  obtain ⟨xs, ho, hz⟩ := h.own
  exact ⟨h.le, ⟨xs, row_keep ho hB, hz⟩, h.bel.trans (hB.mono h.bel.size), h.obj.below hB, h.lt⟩
theorem DI.at {w : World} {m B1 B2 : Nat} {oa : Option Addr} {oc : Nat} {o : Ob} {v : Value} {W : World} (h : DI w m B1 B2 oa oc o v W) (k : Nat) (hk : k < m) :
    ∃ g2 z, oa = some ⟨g2, 0, none⟩ ∧ W.cell? ⟨g2, k, none⟩ = some (.int .u8 z) ∧ W.frozen? ⟨g2, k, none⟩ = false ∧ ∀ e, DI w m B1 B2 oa oc o v (W.setCell ⟨g2, k, none⟩ (.int .u8 e)) := by
  obtain ⟨xs, ho, hz⟩ := h.own
  obtain ⟨g2, rfl⟩ := own_addrR ho (by omega)
  have hxl := ho.1
  obtain ⟨y, hy⟩ : ∃ y, xs[k]? = some y := ⟨_, List.getElem?_eq_getElem (by omega)⟩
  obtain ⟨z, rfl⟩ := hz y (List.mem_of_getElem? hy)
  obtain ⟨hgb, hgl, cur, hcur⟩ := row_block ho g2 rfl
  have hl2 := h.lt _ rfl
  have hle := h.le
  refine ⟨g2, z, rfl, (ho.cellAt k (by omega)).trans hy, ho.frozenAt k, fun e => ⟨h.le, ⟨_, (ho.stored k (.int .u8 e)).1, fun x hx => ?_⟩, h.bel.setCell (p := ⟨g2, k, none⟩) (Nat.le_trans hle hgb) _, h.obj.grown (ho.stored k (.int .u8 e)).2 hl2, h.lt⟩⟩
  rcases List.mem_or_eq_of_mem_set hx with hx | rfl
  · exact hz x hx
  · exact ⟨e, rfl⟩
theorem own_of {L : List UInt8} {m B : Nat} {v : Value} {W : World} (hl : L.length = m) (h : W.ownsRow B 5 1 v (0 + m) ([] ++ cellsOf L)) : ∃ ad c, v = .slice ad m c ∧ m ≤ c ∧ Bytes W ad m L ∧ OwnX B v m W ∧ ∀ a, ad = some a → a.block < W.heap.size := by
  rw [Nat.zero_add, List.nil_append] at h
  obtain ⟨ad, c, rfl, hc, _⟩ := row_shape h
  have h' : OwnB B L (.slice ad m c) W := ⟨by rw [hl]; exact h⟩
  refine ⟨ad, c, rfl, hc, h'.bytes hl, ⟨_, h, fun x hx => ?_⟩, fun a ha => ?_⟩
  · unfold cellsOf at hx
    obtain ⟨y, _, rfl⟩ := List.mem_map.1 hx
    exact ⟨_, rfl⟩
  · subst ha
    rcases h.2 with ⟨h1, _⟩ | ⟨g, cap, cur, h1, hb, hg, _⟩
    · cases h1
    · cases h1
      exact (Array.getElem?_eq_some_iff.1 hg).1

set_option maxRecDepth 100000 in
set_option maxHeartbeats 8000000 in
theorem decodes_none (a : Option Addr) (n c m : Nat) (L : List UInt8) (w : World) (hm : m = min n 16384) (HYY : Bytes w a m L) (hmc : m ≤ c) (hnil : a = none → m = 0 ∧ c = 0) (hD : decG L = none) :
    Calls Try.prog 6 #[.slice a n c] w fun e w' => e = .returned (.bool true) ∧ Below w.heap.size w w' := by
  have HM : Hid (m = min n 16384) := hm
  have hm9 : m ≤ 16384 := by omega
  have im : (m : Int) ≤ (c : Int) := by omega
  have HY : Hid (Bytes w a m L) := HYY
  have HN : Hid (a = none → m = 0 ∧ c = 0) := hnil
  have HLn : Hid (L.length = m) := HY.out.1
  clear hm HYY hnil
  have HD : Hid (∀ W ad cp, Bytes W ad m L → Calls Try.prog 23 #[.slice ad m cp] W fun y w' => y = .returned (.tuple #[.nilIface, .int .i64 8]) ∧ Below W.heap.size W w') := fun W ad cp h => by
    have := Decode_any ad m cp L W h (by omega)
    rw [hD] at this
    exact this
  have HR : Hid (∀ W, Bytes W a m L → Calls Try.prog 26 #[.slice a m c] W fun e w' => e = .returned (.bool false) ∧ Below W.heap.size W w') := fun W h => by
    have := refRight_any a m c L W h hmc (by omega)
    rw [hD] at this
    exact this
  clear hD
  go_enter Try.func6, Try.ntmps6
  go_wp2_with first
    | (go_at_call 9; refine (wakes_any _).mono ?_; rintro e w1 ⟨rfl, hB1⟩; have hr0 : (w1.alloc (.cells #[] 5)).ownsRow w1.heap.size 5 1 (.slice (some ⟨w1.heap.size, 0, none⟩) 0 0) 0 [] := World.ownsRow_made w1 #[] 0 (Nat.le_refl _) (by unfold maxLen; omega) rfl; have hyA : Bytes (w1.alloc (.cells #[] 5)) a m L := bytes_below (bytes_below HY.out hB1) ((Below.refl _ _).alloc (Nat.le_refl _) _))
    | (refine wpList_minR _ rfl _ _ rfl n 16384 _ rfl rfl rfl ?_; rw [← HM.out])
    | (at_builtin; refine wpList_app _ w1.heap.size (by simp) rfl _ _ rfl (.slice (some ⟨w1.heap.size, 0, none⟩) 0 0) 0 [] rfl hr0 a m c L rfl hyA HN.out (by omega) ?_; intro v2 w2 ho2 hg2 _; have B2 : Below w1.heap.size w1 w2 := ((Below.refl _ _).alloc (Nat.le_refl _) _).trans (below_gr hr0 (by simp) hg2); obtain ⟨oa, oc, hv2, hoc, hy2, hx2, hlt2⟩ := own_of HLn.out ho2; subst hv2; have H2 : Hid (Bytes w2 oa m L ∧ OwnX w1.heap.size (.slice oa m oc) m w2 ∧ (∀ ad, oa = some ad → ad.block < w2.heap.size) ∧ Below w.heap.size w w2 ∧ w.heap.size ≤ w1.heap.size) := ⟨hy2, hx2, hlt2, hB1.trans (B2.mono hB1.size), hB1.size⟩; clear ho2 hg2 hr0 hyA B2 hy2 hx2 hlt2 hB1)
    | (go_at_call 23; refine (HD.out _ oa oc H2.out.1).mono ?_; rintro e w3 ⟨rfl, hB3⟩; have H3 : Hid (Bytes w3 oa m L ∧ Below w.heap.size w w3 ∧ Bytes w3 a m L) := ⟨bytes_below H2.out.1 hB3, H2.out.2.2.2.1.trans (hB3.mono H2.out.2.2.2.1.size), bytes_below HY.out (H2.out.2.2.2.1.trans (hB3.mono H2.out.2.2.2.1.size))⟩; clear H2 hB3)
    | (go_at_call 12; refine (equal_yes _ oa a m m oc c L H3.out.1 H3.out.2.2).mono ?_; rintro e w4 ⟨rfl, h4⟩; subst h4)
    | (go_at_call 24; refine (Id_any a m c L _ H3.out.2.2 (by unfold maxLen; omega)).mono ?_; rintro e w5 ⟨rfl, h5⟩; subst h5)
    | (go_at_call 25; refine (refId_any a m c L _ H3.out.2.2 (by unfold maxLen; omega)).mono ?_; rintro e w6 ⟨rfl, h6⟩; subst h6)
    | (go_at_call 26; refine (HR.out _ H3.out.2.2).mono ?_; rintro e w7 ⟨rfl, hB7⟩; have H7 : Hid (Below w.heap.size w w7) := H3.out.2.1.trans (hB7.mono H3.out.2.1.size); clear H3 hB7)
    | (go_at_call 9; refine (wakes_any _).mono ?_; rintro e w8 ⟨rfl, hB8⟩)
  go_ret
  exact ⟨rfl, H7.out.trans (hB8.mono H7.out.size)⟩

set_option maxRecDepth 100000 in
set_option maxHeartbeats 8000000 in
theorem decodes_tree (a : Option Addr) (n c m : Nat) (L : List UInt8) (w : World) (hm : m = min n 16384) (HYY : Bytes w a m L) (hmc : m ≤ c) (hnil : a = none → m = 0 ∧ c = 0) (R : List Ent) (o : Ob) (ho : o = .tree R) (hD : decG L = some o) :
    Calls Try.prog 6 #[.slice a n c] w fun e w' => e = .returned (.bool true) ∧ Below w.heap.size w w' := by
  have HM : Hid (m = min n 16384) := hm
  have hm9 : m ≤ 16384 := by omega
  have im : (m : Int) ≤ (c : Int) := by omega
  have HY : Hid (Bytes w a m L) := HYY
  have HN : Hid (a = none → m = 0 ∧ c = 0) := hnil
  have HLn : Hid (L.length = m) := HY.out.1
  clear hm HYY hnil
  have HD : Hid (∀ W ad cp, Bytes W ad m L → Calls Try.prog 23 #[.slice ad m cp] W fun y w' => (∃ v, y = .returned (.tuple #[v, .int .i64 0]) ∧ ObF W.heap.size o v w') ∧ Below W.heap.size W w') := fun W ad cp h => Decode_F ad m cp L W h (by omega) o hD
  have HR : Hid (∀ W, Bytes W a m L → Calls Try.prog 26 #[.slice a m c] W fun e w' => e = .returned (.bool true) ∧ Below W.heap.size W w') := fun W h => by
    have := refRight_any a m c L W h hmc (by omega)
    rw [hD] at this
    exact this
  have HO : Hid (ObOk o ∧ (obB o).length ≤ 549755813888) := by
    obtain ⟨_, _, h3, h4⟩ := decG_some hD (by have := HLn.out; omega)
    exact ⟨h4, by rw [h3]; have := HLn.out; omega⟩
  have HA : Hid (∀ W, Bytes W a m L → Calls Try.prog 27 #[.slice a m c] W fun x w' => (∃ ad cp, x = .returned (.tuple #[.slice ad R.length cp, .bool true]) ∧ Ents w' ad R.length R) ∧ Below W.heap.size W w') := fun W h => by
    have := refAsTree_any a m c L W h hmc (by omega)
    rw [(tree_iff L (by have := HLn.out; omega) R).2 (by rw [hD, ho])] at this
    exact this
  have HE : Hid (o = .tree R) := ho
  clear hD ho
  go_enter Try.func6, Try.ntmps6
  go_wp2_with first
    | (go_at_call 9; refine (wakes_any _).mono ?_; rintro e w1 ⟨rfl, hB1⟩; have hr0 : (w1.alloc (.cells #[] 5)).ownsRow w1.heap.size 5 1 (.slice (some ⟨w1.heap.size, 0, none⟩) 0 0) 0 [] := World.ownsRow_made w1 #[] 0 (Nat.le_refl _) (by unfold maxLen; omega) rfl; have hyA : Bytes (w1.alloc (.cells #[] 5)) a m L := bytes_below (bytes_below HY.out hB1) ((Below.refl _ _).alloc (Nat.le_refl _) _))
    | (refine wpList_minR _ rfl _ _ rfl n 16384 _ rfl rfl rfl ?_; rw [← HM.out])
    | (at_builtin; refine wpList_app _ w1.heap.size (by simp) rfl _ _ rfl (.slice (some ⟨w1.heap.size, 0, none⟩) 0 0) 0 [] rfl hr0 a m c L rfl hyA HN.out (by omega) ?_; intro v2 w2 ho2 hg2 _; have B2 : Below w1.heap.size w1 w2 := ((Below.refl _ _).alloc (Nat.le_refl _) _).trans (below_gr hr0 (by simp) hg2); obtain ⟨oa, oc, hv2, hoc, hy2, hx2, hlt2⟩ := own_of HLn.out ho2; subst hv2; have H2 : Hid (Bytes w2 oa m L ∧ OwnX w1.heap.size (.slice oa m oc) m w2 ∧ (∀ ad, oa = some ad → ad.block < w2.heap.size) ∧ Below w.heap.size w w2 ∧ w.heap.size ≤ w1.heap.size) := ⟨hy2, hx2, hlt2, hB1.trans (B2.mono hB1.size), hB1.size⟩; clear ho2 hg2 hr0 hyA B2 hy2 hx2 hlt2 hB1)
    | (go_at_call 23; refine (HD.out _ oa oc H2.out.1).mono ?_; rintro e w3 ⟨⟨v, rfl, hO3⟩, hB3⟩; obtain ⟨X2, hX2⟩ : ∃ x, x = w2.heap.size := ⟨_, rfl⟩; have H3 : Hid (Bytes w3 oa m L ∧ Bytes w3 a m L ∧ DI w m w1.heap.size w2.heap.size oa oc o v w3) := ⟨bytes_below H2.out.1 hB3, bytes_below HY.out (H2.out.2.2.2.1.trans (hB3.mono H2.out.2.2.2.1.size)), H2.out.2.2.2.2, (by obtain ⟨xs, ho, hz⟩ := H2.out.2.1; exact ⟨xs, row_keep ho hB3, hz⟩), H2.out.2.2.2.1.trans (hB3.mono H2.out.2.2.2.1.size), hO3, H2.out.2.2.1⟩; clear H2 hB3 hO3)
    | (go_at_call 12; refine (equal_yes _ oa a m m oc c L H3.out.1 H3.out.2.1).mono ?_; rintro e w4 ⟨rfl, h4⟩; subst h4)
    | (go_at_call 24; refine (Id_any a m c L _ H3.out.2.1 (by unfold maxLen; omega)).mono ?_; rintro e w5 ⟨rfl, h5⟩; subst h5)
    | (go_at_call 25; refine (refId_any a m c L _ H3.out.2.1 (by unfold maxLen; omega)).mono ?_; rintro e w6 ⟨rfl, h6⟩; subst h6)
    | (go_at_call 26; refine (HR.out _ H3.out.2.1).mono ?_; rintro e w7 ⟨rfl, hB7⟩; have H7 : Hid (DI w m w1.heap.size w2.heap.size oa oc o v w7) := H3.out.2.2.below hB7; clear H3 hB7)
  go_loopw [54] (fun j wr => ∃ k : Nat, k ≤ m ∧ j = .int .i64 (k : Int) ∧ Hid (DI w m w1.heap.size w2.heap.size oa oc o v wr)) (fun j _ => m - (intOf j).toNat)
  case atStart => exact ⟨0, Nat.zero_le _, rfl, H7.out⟩
  case round =>
    clear H7
    obtain ⟨k, hk, rfl, H⟩ := hrel
    by_cases hkm : k < m
    · obtain ⟨g2, z, hoa, cz, fz, H2⟩ := H.out.at k hkm
      subst hoa
      have HH : Hid (∀ e, DI w m w1.heap.size w2.heap.size (some ⟨g2, 0, none⟩) oc o v (wr.setCell ⟨g2, k, none⟩ (.int .u8 e))) := H2
      have i1 : (k : Int) < (m : Int) := by omega
      have i2 : ¬ m ≤ k := by omega
      clear H H2
      go_wp2
      go_roundw
      case rel => exact ⟨k + 1, by omega, by simp, HH.out _⟩
      case measure => simp [intOf]; omega
    · obtain rfl : k = m := by omega
      have i1 : ¬ (k : Int) < (k : Int) := by omega
      have hh := H.out.obj.at_ HO.out.1 HO.out.2
      rw [HE.out] at hh
      obtain ⟨ad, cp, hv, hents, _, hlen⟩ := hh
      subst hv
      have hta1 : ∀ xT w, (Instr.typeAssert (trV ad R.length cp) xT 25 true).run Try.prog w = .ok (.tuple #[.agg #[.slice none 0 0], .bool false]) w := no_blob 35 (by decide) _
      have hta2 : ∀ xT w, (Instr.typeAssert (trV ad R.length cp) xT 35 true).run Try.prog w = .ok (.tuple #[.agg #[.slice ad R.length cp], .bool true]) w := as_tree _
      have hB0 : Below wr.heap.size wr (wr.alloc (.cells #[.slice ad R.length cp] 35)) := (Below.refl _ _).alloc (Nat.le_refl _) _
      have HT : Hid (Ents (wr.alloc (.cells #[.slice ad R.length cp] 35)) ad R.length R ∧ Bytes (wr.alloc (.cells #[.slice ad R.length cp] 35)) a k L ∧ Below w.heap.size w (wr.alloc (.cells #[.slice ad R.length cp] 35)) ∧ Boxed (wr.alloc (.cells #[.slice ad R.length cp] 35)) wr.heap.size 35 (.slice ad R.length cp)) := ⟨hents.below hB0, bytes_below HY.out (H.out.bel.trans (hB0.mono H.out.bel.size)), H.out.bel.trans (hB0.mono H.out.bel.size), Boxed.new _ _ _⟩
      clear hents hB0
      go_wp2_with first
        | (go_at_call 27; refine (HA.out _ HT.out.2.1).mono ?_; rintro e w9 ⟨⟨ad2, cp2, rfl, hE9⟩, hB9⟩; have H9 : Hid (Ents w9 ad R.length R ∧ Ents w9 ad2 R.length R ∧ Below w.heap.size w w9) := ⟨HT.out.1.below hB9, hE9, HT.out.2.2.1.trans (hB9.mono HT.out.2.2.1.size)⟩; have cb9 := Boxed.cell ((hB9.block _ HT.out.2.2.2.lt).trans HT.out.2.2.2); clear HT hE9 hB9)
        | (go_at_call 18; refine (entries_like _ ad ad2 R.length cp cp2 R H9.out.1 H9.out.2.1 hlen).mono ?_; rintro e w10 ⟨rfl, hB10⟩; have H10 : Hid (Below w.heap.size w w10) := H9.out.2.2.trans (hB10.mono H9.out.2.2.size); clear H9 hB10 cb9)
        | (go_at_call 9; refine (wakes_any _).mono ?_; rintro e w11 ⟨rfl, hB11⟩)
      go_ret
      exact ⟨rfl, H10.out.trans (hB11.mono H10.out.size)⟩

end Go.Proofs.Ytdibdcbihleflaa

/- The walk of the law ObjectDecodes: a commit. -/
namespace Go.Proofs.Ytdibdcbihleflaa
open Go.RowKit

attribute [local go_sem] Oper.semAt_some

set_option maxRecDepth 100000 in
set_option maxHeartbeats 8000000 in
theorem decodes_com (a : Option Addr) (n c m : Nat) (L : List UInt8) (w : World) (hm : m = min n 16384) (HYY : Bytes w a m L) (hmc : m ≤ c) (hnil : a = none → m = 0 ∧ c = 0) (t : Int) (pl : List Int) (au : ByteArray) (d : Int) (tx : ByteArray) (o : Ob) (ho : o = .com (t, pl, au, d, tx)) (hD : decG L = some o) :
    Calls Try.prog 6 #[.slice a n c] w fun e w' => e = .returned (.bool true) ∧ Below w.heap.size w w' := by
  have HM : Hid (m = min n 16384) := hm
  have hm9 : m ≤ 16384 := by omega
  have im : (m : Int) ≤ (c : Int) := by omega
  have HY : Hid (Bytes w a m L) := HYY
  have HN : Hid (a = none → m = 0 ∧ c = 0) := hnil
  have HLn : Hid (L.length = m) := HY.out.1
  clear hm HYY hnil
  have HD : Hid (∀ W ad cp, Bytes W ad m L → Calls Try.prog 23 #[.slice ad m cp] W fun y w' => (∃ v, y = .returned (.tuple #[v, .int .i64 0]) ∧ ObF W.heap.size o v w') ∧ Below W.heap.size W w') := fun W ad cp h => Decode_F ad m cp L W h (by omega) o hD
  have HR : Hid (∀ W, Bytes W a m L → Calls Try.prog 26 #[.slice a m c] W fun e w' => e = .returned (.bool true) ∧ Below W.heap.size W w') := fun W h => by
    have := refRight_any a m c L W h hmc (by omega)
    rw [hD] at this
    exact this
  have HO : Hid (ObOk o ∧ (obB o).length ≤ 549755813888) := by
    obtain ⟨_, _, h3, h4⟩ := decG_some hD (by have := HLn.out; omega)
    exact ⟨h4, by rw [h3]; have := HLn.out; omega⟩
  have HA : Hid (∀ W, Bytes W a m L → Calls Try.prog 28 #[.slice a m c] W fun x w' => (∃ ad cp, x = .returned (.tuple #[cmt t ad pl.length cp au d tx, .bool true]) ∧ Ids w' ad pl.length pl) ∧ Below W.heap.size W w') := fun W h => by
    have := refAsCommit_any a m c L W h hmc (by omega)
    rw [(com_iff L (by have := HLn.out; omega) (t, pl, au, d, tx)).2 (by rw [hD, ho])] at this
    exact this
  have HE : Hid (o = .com (t, pl, au, d, tx)) := ho
  clear hD ho
  go_enter Try.func6, Try.ntmps6
  go_wp2_with first
    | (go_at_call 9; refine (wakes_any _).mono ?_; rintro e w1 ⟨rfl, hB1⟩; have hr0 : (w1.alloc (.cells #[] 5)).ownsRow w1.heap.size 5 1 (.slice (some ⟨w1.heap.size, 0, none⟩) 0 0) 0 [] := World.ownsRow_made w1 #[] 0 (Nat.le_refl _) (by unfold maxLen; omega) rfl; have hyA : Bytes (w1.alloc (.cells #[] 5)) a m L := bytes_below (bytes_below HY.out hB1) ((Below.refl _ _).alloc (Nat.le_refl _) _))
    | (refine wpList_minR _ rfl _ _ rfl n 16384 _ rfl rfl rfl ?_; rw [← HM.out])
    | (at_builtin; refine wpList_app _ w1.heap.size (by simp) rfl _ _ rfl (.slice (some ⟨w1.heap.size, 0, none⟩) 0 0) 0 [] rfl hr0 a m c L rfl hyA HN.out (by omega) ?_; intro v2 w2 ho2 hg2 _; have B2 : Below w1.heap.size w1 w2 := ((Below.refl _ _).alloc (Nat.le_refl _) _).trans (below_gr hr0 (by simp) hg2); obtain ⟨oa, oc, hv2, hoc, hy2, hx2, hlt2⟩ := own_of HLn.out ho2; subst hv2; have H2 : Hid (Bytes w2 oa m L ∧ OwnX w1.heap.size (.slice oa m oc) m w2 ∧ (∀ ad, oa = some ad → ad.block < w2.heap.size) ∧ Below w.heap.size w w2 ∧ w.heap.size ≤ w1.heap.size) := ⟨hy2, hx2, hlt2, hB1.trans (B2.mono hB1.size), hB1.size⟩; clear ho2 hg2 hr0 hyA B2 hy2 hx2 hlt2 hB1)
    | (go_at_call 23; refine (HD.out _ oa oc H2.out.1).mono ?_; rintro e w3 ⟨⟨v, rfl, hO3⟩, hB3⟩; obtain ⟨X2, hX2⟩ : ∃ x, x = w2.heap.size := ⟨_, rfl⟩; have H3 : Hid (Bytes w3 oa m L ∧ Bytes w3 a m L ∧ DI w m w1.heap.size w2.heap.size oa oc o v w3) := ⟨bytes_below H2.out.1 hB3, bytes_below HY.out (H2.out.2.2.2.1.trans (hB3.mono H2.out.2.2.2.1.size)), H2.out.2.2.2.2, (by obtain ⟨xs, ho, hz⟩ := H2.out.2.1; exact ⟨xs, row_keep ho hB3, hz⟩), H2.out.2.2.2.1.trans (hB3.mono H2.out.2.2.2.1.size), hO3, H2.out.2.2.1⟩; clear H2 hB3 hO3)
    | (go_at_call 12; refine (equal_yes _ oa a m m oc c L H3.out.1 H3.out.2.1).mono ?_; rintro e w4 ⟨rfl, h4⟩; subst h4)
    | (go_at_call 24; refine (Id_any a m c L _ H3.out.2.1 (by unfold maxLen; omega)).mono ?_; rintro e w5 ⟨rfl, h5⟩; subst h5)
    | (go_at_call 25; refine (refId_any a m c L _ H3.out.2.1 (by unfold maxLen; omega)).mono ?_; rintro e w6 ⟨rfl, h6⟩; subst h6)
    | (go_at_call 26; refine (HR.out _ H3.out.2.1).mono ?_; rintro e w7 ⟨rfl, hB7⟩; have H7 : Hid (DI w m w1.heap.size w2.heap.size oa oc o v w7) := H3.out.2.2.below hB7; clear H3 hB7)
  go_loopw [54] (fun j wr => ∃ k : Nat, k ≤ m ∧ j = .int .i64 (k : Int) ∧ Hid (DI w m w1.heap.size w2.heap.size oa oc o v wr)) (fun j _ => m - (intOf j).toNat)
  case atStart => exact ⟨0, Nat.zero_le _, rfl, H7.out⟩
  case round =>
    clear H7
    obtain ⟨k, hk, rfl, H⟩ := hrel
    by_cases hkm : k < m
    · obtain ⟨g2, z, hoa, cz, fz, H2⟩ := H.out.at k hkm
      subst hoa
      have HH : Hid (∀ e, DI w m w1.heap.size w2.heap.size (some ⟨g2, 0, none⟩) oc o v (wr.setCell ⟨g2, k, none⟩ (.int .u8 e))) := H2
      have i1 : (k : Int) < (m : Int) := by omega
      have i2 : ¬ m ≤ k := by omega
      clear H H2
      go_wp2
      go_roundw
      case rel => exact ⟨k + 1, by omega, by simp, HH.out _⟩
      case measure => simp [intOf]; omega
    · obtain rfl : k = m := by omega
      have i1 : ¬ (k : Int) < (k : Int) := by omega
      have hh := H.out.obj.at_ HO.out.1 HO.out.2
      rw [HE.out] at hh
      obtain ⟨ad, cp, hv, hcom⟩ := hh
      simp only at hv hcom
      subst hv
      have hids := hcom.par
      have hlen := hcom.len.2.1
      have hta1 : ∀ xT w, (Instr.typeAssert (coV t ad pl.length cp au d tx) xT 25 true).run Try.prog w = .ok (.tuple #[.agg #[.slice none 0 0], .bool false]) w := no_blob 42 (by decide) _
      have hta2 : ∀ xT w, (Instr.typeAssert (coV t ad pl.length cp au d tx) xT 35 true).run Try.prog w = .ok (.tuple #[.agg #[.slice none 0 0], .bool false]) w := no_tree 42 (by decide) _
      have hta3 : ∀ xT w, (Instr.typeAssert (coV t ad pl.length cp au d tx) xT 42 true).run Try.prog w = .ok (.tuple #[cmt t ad pl.length cp au d tx, .bool true]) w := as_commit _
      have hB0 : Below wr.heap.size wr (wr.alloc (.cells #[.int .u64 t, .slice ad pl.length cp, .string au, .int .i64 d, .string tx] 42)) := (Below.refl _ _).alloc (Nat.le_refl _) _
      have HT : Hid (Ids (wr.alloc (.cells #[.int .u64 t, .slice ad pl.length cp, .string au, .int .i64 d, .string tx] 42)) ad pl.length pl ∧ Bytes (wr.alloc (.cells #[.int .u64 t, .slice ad pl.length cp, .string au, .int .i64 d, .string tx] 42)) a k L ∧ Below w.heap.size w (wr.alloc (.cells #[.int .u64 t, .slice ad pl.length cp, .string au, .int .i64 d, .string tx] 42)) ∧ Box5 (wr.alloc (.cells #[.int .u64 t, .slice ad pl.length cp, .string au, .int .i64 d, .string tx] 42)) wr.heap.size (.int .u64 t) (.slice ad pl.length cp) (.string au) (.int .i64 d) (.string tx)) := ⟨hids.kept hB0, bytes_below HY.out (H.out.bel.trans (hB0.mono H.out.bel.size)), H.out.bel.trans (hB0.mono H.out.bel.size), Box5.new _ _ _ _ _ _⟩
      clear hids hB0 hcom
      go_wp2_with first
        | (go_at_call 28; refine (HA.out _ HT.out.2.1).mono ?_; rintro e w9 ⟨⟨ad2, cp2, rfl, hE9⟩, hB9⟩; have hB9' : Below w9.heap.size w9 (w9.alloc (.cells #[.int .u64 t, .slice ad2 pl.length cp2, .string au, .int .i64 d, .string tx] 42)) := (Below.refl _ _).alloc (Nat.le_refl _) _; have H9 : Hid (Ids (w9.alloc (.cells #[.int .u64 t, .slice ad2 pl.length cp2, .string au, .int .i64 d, .string tx] 42)) ad pl.length pl ∧ Ids (w9.alloc (.cells #[.int .u64 t, .slice ad2 pl.length cp2, .string au, .int .i64 d, .string tx] 42)) ad2 pl.length pl ∧ Below w.heap.size w (w9.alloc (.cells #[.int .u64 t, .slice ad2 pl.length cp2, .string au, .int .i64 d, .string tx] 42))) := ⟨(HT.out.1.kept hB9).kept hB9', hE9.kept hB9', (HT.out.2.2.1.trans (hB9.mono HT.out.2.2.1.size)).alloc (HT.out.2.2.1.trans (hB9.mono HT.out.2.2.1.size)).size _⟩; obtain ⟨d0, d1, d2, d3, d4⟩ := ((HT.out.2.2.2.kept hB9).kept hB9').cell; obtain ⟨f0, f1, f2, f3, f4⟩ := (Box5.new w9 (.int .u64 t) (.slice ad2 pl.length cp2) (.string au) (.int .i64 d) (.string tx)).cell; clear hB9'; clear HT hE9 hB9)
        | (go_at_call 21; refine (commits_like t ad ad2 pl.length cp cp2 au d tx _ pl H9.out.1 H9.out.2.1 hlen).mono ?_; rintro e w10 ⟨rfl, hB10⟩; have H10 : Hid (Below w.heap.size w w10) := H9.out.2.2.trans (hB10.mono H9.out.2.2.size); clear H9 hB10)
        | (go_at_call 9; refine (wakes_any _).mono ?_; rintro e w11 ⟨rfl, hB11⟩)
      go_ret
      exact ⟨rfl, H10.out.trans (hB11.mono H10.out.size)⟩

end Go.Proofs.Ytdibdcbihleflaa

/- The walk of the law ObjectDecodes: a blob. -/
namespace Go.Proofs.Ytdibdcbihleflaa
open Go.RowKit

attribute [local go_sem] Oper.semAt_some

theorem bytes_tail {W : World} {ba bo m : Nat} {x : UInt8} {bb : List UInt8} (h : Bytes W (some ⟨ba, bo, none⟩) m (x :: bb)) (hm : m = bb.length + 1) : Bytes W (some ⟨ba, bo + 1, none⟩) bb.length bb := by
  refine ⟨rfl, fun h0 => ⟨ba, bo + 1, rfl, fun i hi => ?_⟩⟩
  obtain ⟨b, off, e, hc⟩ := h.2 (by omega)
  cases e
  have := hc (i + 1) (by omega)
  rw [show bo + 1 + i = bo + (i + 1) by omega]
  exact this

set_option maxRecDepth 100000 in
set_option maxHeartbeats 8000000 in
theorem decodes_blob (a : Option Addr) (n c m : Nat) (L : List UInt8) (w : World) (hm : m = min n 16384) (HYY : Bytes w a m L) (hmc : m ≤ c) (hnil : a = none → m = 0 ∧ c = 0) (bb : List UInt8) (o : Ob) (ho : o = .blob bb) (hD : decG L = some o) :
    Calls Try.prog 6 #[.slice a n c] w fun e w' => e = .returned (.bool true) ∧ Below w.heap.size w w' := by
  have HM : Hid (m = min n 16384) := hm
  have hm9 : m ≤ 16384 := by omega
  have im : (m : Int) ≤ (c : Int) := by omega
  have HY : Hid (Bytes w a m L) := HYY
  have HN : Hid (a = none → m = 0 ∧ c = 0) := hnil
  have HLn : Hid (L.length = m) := HY.out.1
  clear hm HYY hnil
  have HD : Hid (∀ W ad cp, Bytes W ad m L → Calls Try.prog 23 #[.slice ad m cp] W fun y w' => (∃ v, y = .returned (.tuple #[v, .int .i64 0]) ∧ ObF W.heap.size o v w') ∧ Below W.heap.size W w') := fun W ad cp h => Decode_F ad m cp L W h (by omega) o hD
  have HR : Hid (∀ W, Bytes W a m L → Calls Try.prog 26 #[.slice a m c] W fun e w' => e = .returned (.bool true) ∧ Below W.heap.size W w') := fun W h => by
    have := refRight_any a m c L W h hmc (by omega)
    rw [hD] at this
    exact this
  have HO : Hid (L = 98 :: bb) := by
    obtain ⟨_, _, h3, h4⟩ := decG_some hD (by have := HLn.out; omega)
    rw [ho] at h3
    exact h3.symm
  have HE : Hid (o = .blob bb) := ho
  clear hD ho
  go_enter Try.func6, Try.ntmps6
  go_wp2_with first
    | (go_at_call 9; refine (wakes_any _).mono ?_; rintro e w1 ⟨rfl, hB1⟩; have hr0 : (w1.alloc (.cells #[] 5)).ownsRow w1.heap.size 5 1 (.slice (some ⟨w1.heap.size, 0, none⟩) 0 0) 0 [] := World.ownsRow_made w1 #[] 0 (Nat.le_refl _) (by unfold maxLen; omega) rfl; have hyA : Bytes (w1.alloc (.cells #[] 5)) a m L := bytes_below (bytes_below HY.out hB1) ((Below.refl _ _).alloc (Nat.le_refl _) _))
    | (refine wpList_minR _ rfl _ _ rfl n 16384 _ rfl rfl rfl ?_; rw [← HM.out])
    | (at_builtin; refine wpList_app _ w1.heap.size (by simp) rfl _ _ rfl (.slice (some ⟨w1.heap.size, 0, none⟩) 0 0) 0 [] rfl hr0 a m c L rfl hyA HN.out (by omega) ?_; intro v2 w2 ho2 hg2 _; have B2 : Below w1.heap.size w1 w2 := ((Below.refl _ _).alloc (Nat.le_refl _) _).trans (below_gr hr0 (by simp) hg2); obtain ⟨oa, oc, hv2, hoc, hy2, hx2, hlt2⟩ := own_of HLn.out ho2; subst hv2; have H2 : Hid (Bytes w2 oa m L ∧ OwnX w1.heap.size (.slice oa m oc) m w2 ∧ (∀ ad, oa = some ad → ad.block < w2.heap.size) ∧ Below w.heap.size w w2 ∧ w.heap.size ≤ w1.heap.size) := ⟨hy2, hx2, hlt2, hB1.trans (B2.mono hB1.size), hB1.size⟩; clear ho2 hg2 hr0 hyA B2 hy2 hx2 hlt2 hB1)
    | (go_at_call 23; refine (HD.out _ oa oc H2.out.1).mono ?_; rintro e w3 ⟨⟨v, rfl, hO3⟩, hB3⟩; obtain ⟨X2, hX2⟩ : ∃ x, x = w2.heap.size := ⟨_, rfl⟩; have H3 : Hid (Bytes w3 oa m L ∧ Bytes w3 a m L ∧ DI w m w1.heap.size w2.heap.size oa oc o v w3) := ⟨bytes_below H2.out.1 hB3, bytes_below HY.out (H2.out.2.2.2.1.trans (hB3.mono H2.out.2.2.2.1.size)), H2.out.2.2.2.2, (by obtain ⟨xs, ho, hz⟩ := H2.out.2.1; exact ⟨xs, row_keep ho hB3, hz⟩), H2.out.2.2.2.1.trans (hB3.mono H2.out.2.2.2.1.size), hO3, H2.out.2.2.1⟩; clear H2 hB3 hO3)
    | (go_at_call 12; refine (equal_yes _ oa a m m oc c L H3.out.1 H3.out.2.1).mono ?_; rintro e w4 ⟨rfl, h4⟩; subst h4)
    | (go_at_call 24; refine (Id_any a m c L _ H3.out.2.1 (by unfold maxLen; omega)).mono ?_; rintro e w5 ⟨rfl, h5⟩; subst h5)
    | (go_at_call 25; refine (refId_any a m c L _ H3.out.2.1 (by unfold maxLen; omega)).mono ?_; rintro e w6 ⟨rfl, h6⟩; subst h6)
    | (go_at_call 26; refine (HR.out _ H3.out.2.1).mono ?_; rintro e w7 ⟨rfl, hB7⟩; have H7 : Hid (DI w m w1.heap.size w2.heap.size oa oc o v w7) := H3.out.2.2.below hB7; clear H3 hB7)
  go_loopw [54] (fun j wr => ∃ k : Nat, k ≤ m ∧ j = .int .i64 (k : Int) ∧ Hid (DI w m w1.heap.size w2.heap.size oa oc o v wr)) (fun j _ => m - (intOf j).toNat)
  case atStart => exact ⟨0, Nat.zero_le _, rfl, H7.out⟩
  case round =>
    clear H7
    obtain ⟨k, hk, rfl, H⟩ := hrel
    by_cases hkm : k < m
    · obtain ⟨g2, z, hoa, cz, fz, H2⟩ := H.out.at k hkm
      subst hoa
      have HH : Hid (∀ e, DI w m w1.heap.size w2.heap.size (some ⟨g2, 0, none⟩) oc o v (wr.setCell ⟨g2, k, none⟩ (.int .u8 e))) := H2
      have i1 : (k : Int) < (m : Int) := by omega
      have i2 : ¬ m ≤ k := by omega
      clear H H2
      go_wp2
      go_roundw
      case rel => exact ⟨k + 1, by omega, by simp, HH.out _⟩
      case measure => simp [intOf]; omega
    · obtain rfl : k = m := by omega
      have i1 : ¬ (k : Int) < (k : Int) := by omega
      have hh := H.out.obj
      rw [HE.out] at hh
      obtain ⟨g, cp, hv, hby, _⟩ := hh
      subst hv
      have hta1 := as_blob (.agg #[.slice (some ⟨g, 0, none⟩) bb.length cp])
      have hB0 : Below wr.heap.size wr (wr.alloc (.cells #[.slice (some ⟨g, 0, none⟩) bb.length cp] 25)) := (Below.refl _ _).alloc (Nat.le_refl _) _
      have HT : Hid (Bytes (wr.alloc (.cells #[.slice (some ⟨g, 0, none⟩) bb.length cp] 25)) (some ⟨g, 0, none⟩) bb.length bb ∧ Bytes (wr.alloc (.cells #[.slice (some ⟨g, 0, none⟩) bb.length cp] 25)) a k L ∧ Below w.heap.size w (wr.alloc (.cells #[.slice (some ⟨g, 0, none⟩) bb.length cp] 25)) ∧ Boxed (wr.alloc (.cells #[.slice (some ⟨g, 0, none⟩) bb.length cp] 25)) wr.heap.size 25 (.slice (some ⟨g, 0, none⟩) bb.length cp)) := ⟨bytes_below hby hB0, bytes_below HY.out (H.out.bel.trans (hB0.mono H.out.bel.size)), H.out.bel.trans (hB0.mono H.out.bel.size), Boxed.new _ _ _⟩
      have cb := HT.out.2.2.2.cell
      clear hby hB0
      have hk1 : k = bb.length + 1 := by rw [← HLn.out, HO.out]; simp
      obtain ⟨ba, bo, hae, hcell⟩ := HT.out.2.1.2 (by omega)
      subst hae
      have c0 := hcell 0 (by omega)
      rw [show bt L 0 = 98 by rw [HO.out]; rfl] at c0
      simp only [Nat.add_zero] at c0
      clear hcell
      have hBD : Below ((wr.alloc (.cells #[.slice (some ⟨g, 0, none⟩) bb.length cp] 25))).heap.size (wr.alloc (.cells #[.slice (some ⟨g, 0, none⟩) bb.length cp] 25)) (wr.alloc (.cells #[.slice (some ⟨g, 0, none⟩) bb.length cp] 25)).drew := ⟨rfl, rfl, rfl, Nat.le_refl _, fun _ _ => rfl⟩
      have F1 : Hid (Bytes (wr.alloc (.cells #[.slice (some ⟨g, 0, none⟩) bb.length cp] 25)).drew (some ⟨g, 0, none⟩) bb.length bb ∧ Bytes (wr.alloc (.cells #[.slice (some ⟨g, 0, none⟩) bb.length cp] 25)).drew (some ⟨ba, bo + 1, none⟩) bb.length bb ∧ Below w.heap.size w (wr.alloc (.cells #[.slice (some ⟨g, 0, none⟩) bb.length cp] 25)).drew) := ⟨bytes_below HT.out.1 hBD, (by have h1 := bytes_below HT.out.2.1 hBD; rw [HO.out] at h1; exact bytes_tail h1 hk1), HT.out.2.2.1.trans (hBD.mono HT.out.2.2.1.size)⟩
      have hS0 : (wr.alloc (.cells #[.slice (some ⟨g, 0, none⟩) bb.length cp] 25)).drew.cell? ⟨wr.heap.size, 0, none⟩ = some (.slice (some ⟨g, 0, none⟩) bb.length cp) ∧ (wr.alloc (.cells #[.slice (some ⟨g, 0, none⟩) bb.length cp] 25)).drew.cell? ⟨ba, bo, none⟩ = some (.int .u8 98) := ⟨cb, c0⟩
      clear hBD HT cb c0 H HD HR
      subst hk1
      have i3 : (0 : Int) ≤ (bb.length : Int) := by omega
      have i4 : (1 : Int) ≤ (bb.length : Int) + 1 := by omega
      have i5 : (0 : Int) ≤ 1 := by omega
      by_cases hc1 : c = 1
      · subst hc1
        have hb0 : Hid (bb.length = 0) := (by omega : bb.length = 0)
        clear im hmc
        go_wp2_with fail
        go_region_held3 (fun W => W.cell? ⟨wr.heap.size, 0, none⟩ = some (.slice (some ⟨g, 0, none⟩) bb.length cp) ∧ W.cell? ⟨ba, bo, none⟩ = some (.int .u8 98))
          (first | assumption | exact hS0 | exact hS1)
          (first
            | (go_at_call 12; refine (equal_yes _ (some ⟨g, 0, none⟩) _ bb.length _ cp _ bb F1.out.1 ⟨rfl, fun h => absurd h (by have := hb0.out; omega)⟩).mono ?_; rintro e w9 ⟨rfl, h9⟩; subst h9)
            | (go_at_call 9; refine (wakes_any _).mono ?_; rintro e w11 ⟨rfl, hB11⟩; have H11 : Hid (Below w.heap.size w w11) := F1.out.2.2.trans (hB11.mono F1.out.2.2.size); have hS1 : w11.cell? ⟨wr.heap.size, 0, none⟩ = some (.slice (some ⟨g, 0, none⟩) bb.length cp) ∧ w11.cell? ⟨ba, bo, none⟩ = some (.int .u8 98) := ⟨by rw [hB11.cell (World.block_lt_of_cell? _ _ hS0.1)]; exact hS0.1, by rw [hB11.cell (World.block_lt_of_cell? _ _ hS0.2)]; exact hS0.2⟩))
        go_wp2
        go_ret
        exact ⟨rfl, H11.out⟩
      · have hc2 : ¬ (1 = c) := fun h => hc1 h.symm
        go_wp2_with fail
        go_region_held3 (fun W => W.cell? ⟨wr.heap.size, 0, none⟩ = some (.slice (some ⟨g, 0, none⟩) bb.length cp) ∧ W.cell? ⟨ba, bo, none⟩ = some (.int .u8 98))
          (first | assumption | exact hS0 | exact hS1)
          (first
            | (go_at_call 12; refine (equal_yes _ (some ⟨g, 0, none⟩) _ bb.length _ cp _ bb F1.out.1 F1.out.2.1).mono ?_; rintro e w9 ⟨rfl, h9⟩; subst h9)
            | (go_at_call 9; refine (wakes_any _).mono ?_; rintro e w11 ⟨rfl, hB11⟩; have H11 : Hid (Below w.heap.size w w11) := F1.out.2.2.trans (hB11.mono F1.out.2.2.size); have hS1 : w11.cell? ⟨wr.heap.size, 0, none⟩ = some (.slice (some ⟨g, 0, none⟩) bb.length cp) ∧ w11.cell? ⟨ba, bo, none⟩ = some (.int .u8 98) := ⟨by rw [hB11.cell (World.block_lt_of_cell? _ _ hS0.1)]; exact hS0.1, by rw [hB11.cell (World.block_lt_of_cell? _ _ hS0.2)]; exact hS0.2⟩))
        go_wp2
        go_ret
        exact ⟨rfl, H11.out⟩

theorem objectDecodes_walk (a : Option Addr) (n c : Nat) (l : List UInt8) (w : World) (hb : Bytes w a n l) (hnc : n ≤ c) (hnil : a = none → n = 0 ∧ c = 0) :
    Calls Try.prog 6 #[.slice a n c] w fun e w' => e = .returned (.bool true) ∧ Below w.heap.size w w' := by
  obtain ⟨m, hm⟩ : ∃ m, m = min n 16384 := ⟨_, rfl⟩
  have hY : Bytes w a m (l.take m) := hb.take m (by omega)
  have hN : a = none → m = 0 ∧ c = 0 := fun h => by have := hnil h; omega
  cases hD : decG (l.take m) with
  | none => exact decodes_none a n c m _ w hm hY (by omega) hN hD
  | some o =>
    cases o with
    | blob b => exact decodes_blob a n c m _ w hm hY (by omega) hN b _ rfl hD
    | tree R => exact decodes_tree a n c m _ w hm hY (by omega) hN R _ rfl hD
    | com x =>
      obtain ⟨t, pl, au, d, tx⟩ := x
      exact decodes_com a n c m _ w hm hY (by omega) hN t pl au d tx _ rfl hD

end Go.Proofs.Ytdibdcbihleflaa

/- Proved here: for all bytes the law ObjectDecodes (Decode tells of bytes what the document reads in them, and broken where they are no object's) returns true, and its argument reads as before. No condition. -/
namespace Go.Proofs.Ytdibdcbihleflaa
open Go.RowKit
open Go.ChangeShapes Go.WideShapes Go.ChangeAt

theorem own : ownKnob Try.prog.godebug = none := by kernel_rfl
theorem laidOut : laidOutB Try.prog = true := by kernel_rfl

set_option maxRecDepth 100000 in
theorem objectDecodes_lifted (os : Os) (started : os.Started) (H : Type) (enc : TypeId × Value → H) :
    ReturnsInHanded {} Try.checked os 6 .any (Rows.objectDecodesSpec.pre6 enc Try.prog Try.f6 Rows.objectDecodesRow.domain false) (Rows.objectDecodesSpec.post enc Try.prog Try.f6 false true false false) := by
  refine returnsInHanded_of_change_sized (C := Try.checked) own started (by kernel_rfl) Try.func6
    (ChangeSpec.witness6 (enc := enc) (C := Try.checked) false ⟨#[], #[.slice none 0 0], []⟩ 8 (by kernel_rfl) (by kernel_rfl) (by kernel_rfl) (by kernel_rfl)) ?_
  intro W base args ds gs before hval0 hW _ hsz0 _
  have hval : ∀ (j : Nat) t v, Try.f6.params[j]? = some t → args[j]? = some v → Value.okWide Try.prog W .any base t v := hval0
  have hW' := hW
  obtain ⟨p, q, hA0, hV, rfl, _, _⟩ := hW
  have hA : DataW.TrodAll enc Try.prog W 0 (fun _ => true) true Try.f6.params.toList args.toList ds p := hA0
  rw [Try.params6] at hA hval
  obtain ⟨v0, vs0, d0, ds0, p0, q0, hargs, rfl, rfl, h0, r0⟩ := trodAll_cons hA
  obtain ⟨rfl, rfl, rfl⟩ := trodAll_nil r0
  obtain rfl : args = #[v0] := by cases args; simp_all
  obtain ⟨rfl, rfl⟩ := trodVars_none hV
  have k0 := h0
  have lt0 : ∀ x ∈ p0, x.block < W.heap.size := by obtain ⟨m, hm⟩ := k0; exact DataW.trod_lt m _ _ _ hm
  obtain ⟨a, n, c, rfl⟩ := okWide_slice Try.underlying22 (hval 0 22 v0 rfl rfl)
  obtain ⟨fuel0, hf0⟩ := k0
  obtain ⟨a1, n1, c1, l, he1, hb, hnc, hnil, _⟩ := bytes_cell hf0
  simp only [Value.slice.injEq] at he1
  obtain ⟨rfl, rfl, rfl⟩ := he1
  clear hA0 hval0 hsz0
  refine (objectDecodes_walk a n c l W hb hnc hnil).mono fun e W' ⟨he, bel⟩ => ?_
  subst he
  exact ⟨_, rfl, _, _, _, [], _, [], hW', trodAll_mk1 (shut_bool Try.underlying4 _), (trodAll_cons_mk (Below.trod laidOut (by kernel_rfl) (of_decide_eq_true (by kernel_rfl)) h0 bel lt0) trodAll_mk0), rfl, bel.frame _, fun h => by cases h⟩

theorem objectDecodes_holds : Rows.ObjectDecodesSaid :=
  OpenClaim.holds_of_wide 6 Try.f6 rfl rfl rfl rfl rfl rfl rfl ⟨rfl, rfl, rfl, rfl, rfl⟩ rfl rfl rfl rfl rfl (by kernel_rfl) Try.func6 (by kernel_rfl)
    (of_decide_eq_true (by kernel_rfl)) (by unfold Func.isWrapper; first | (rw [if_pos (by decide +kernel)]; kernel_rfl) | (rw [if_neg (by decide +kernel)]; exact ⟨rfl, rfl⟩))
    (fun os started H enc _ => objectDecodes_lifted os started H enc)
#print axioms objectDecodes_holds

end Go.Proofs.Ytdibdcbihleflaa
