import Derived.Test.YtncagdfbgpdhfaaGreatR11
/- Plain: what is read is what was written, and the other way round. -/
namespace Go.Proofs.YtncagdfbgpdhfaaGreat
open Go.RowKit

theorem wideVal_inj (t u : List UInt8) : ∀ k, wideVal t k = wideVal u k → ∀ i, i < k → bt t i = bt u i := by
  intro k
  induction k with
  | zero => intro _ i hi; omega
  | succ k ih =>
    intro h i hi
    rw [wideVal_succ, wideVal_succ] at h
    have a0 := bt_lo t k
    have a1 := bt_hi t k
    have b0 := bt_lo u k
    have b1 := bt_hi u k
    by_cases e : i = k
    · subst e; omega
    · exact ih (by omega) i (by omega)
theorem bt_ext {t u : List UInt8} (hl : t.length = u.length) (h : ∀ i, i < t.length → bt t i = bt u i) : t = u := by
  refine List.ext_getElem hl fun i h1 h2 => ?_
  have := h i h1
  simp only [bt, List.getD, List.getElem?_eq_getElem h1, List.getElem?_eq_getElem h2, Option.getD_some] at this
  exact UInt8.toNat_inj.1 (by omega)
theorem wide_back (t : List UInt8) (ht : t.length = 8) (X : Nat) (hX : X < 18446744073709551616) (h : wideVal t 8 = (X : Int)) : t = wide X := by
  have hw := owideVal_wide X [] 8 (by omega) (by omega)
  rw [List.append_nil] at hw
  have e : wideVal t 8 = wideVal (wide X) 8 := by rw [h, hw]; simp
  exact bt_ext (by rw [ht, owide_len]) (fun i hi => wideVal_inj t (wide X) 8 e i (by omega))
/-- from p to q lie the bytes A -/
structure At (l : List UInt8) (p : Nat) (A : List UInt8) (q : Nat) : Prop where
  eq : l.drop p = A ++ l.drop q
  len : q = p + A.length
  le : q ≤ l.length
theorem At.trans {l : List UInt8} {p q r : Nat} {A B : List UInt8} (h : At l p A q) (k : At l q B r) : At l p (A ++ B) r :=
  ⟨by rw [h.eq, k.eq, List.append_assoc], by rw [k.len, h.len, List.length_append]; omega, k.le⟩
theorem At.nil {l : List UInt8} {p : Nat} (h : p ≤ l.length) : At l p [] p := ⟨rfl, by simp, h⟩
theorem At.of {l : List UInt8} {p : Nat} {A r : List UInt8} (h : l.drop p = A ++ r) (hp : p ≤ l.length) : At l p A (p + A.length) ∧ l.drop (p + A.length) = r := by
  have e : l.drop (p + A.length) = r := by rw [← List.drop_drop, h]; simp
  refine ⟨⟨by rw [e, h], rfl, ?_⟩, e⟩
  have := congrArg List.length h
  rw [List.length_drop, List.length_append] at this
  omega
/-- forth -/
theorem byte_at {l : List UInt8} {p q : Nat} {e v : Int} (h : byteR l p e = (v, q, 0)) : e = 0 ∧ ∃ c : UInt8, v = (c.toNat : Int) ∧ At l p [c] q := by
  obtain ⟨he, _, hp⟩ := byteR_ok (l := l) (p := p) (e := e) (by rw [h])
  subst he
  unfold byteR at h
  rw [if_neg (by simp), if_pos hp] at h
  simp only [Prod.mk.injEq, and_true] at h
  refine ⟨rfl, l[p], ?_, ?_⟩
  · rw [← h.1]; simp [bt, hp]
  · exact ⟨by rw [List.drop_eq_getElem_cons hp, ← h.2]; rfl, by rw [← h.2]; rfl, by omega⟩
theorem uint_at {l : List UInt8} {p q : Nat} {e v : Int} (h : uintR l p e = (v, q, 0)) (hp : p ≤ l.length) : e = 0 ∧ ∃ X : Nat, v = (X : Int) ∧ X < 18446744073709551616 ∧ At l p (short X) q := by
  unfold uintR at h
  by_cases he : e ≠ 0
  · rw [if_pos he] at h; simp only [Prod.mk.injEq] at h; exact absurd h.2.2 he
  · rw [if_neg he] at h
    by_cases hn : (num (l.drop p)).2.2 = 0
    · rw [if_pos hn] at h
      simp only [Prod.mk.injEq, and_true] at h
      obtain ⟨X, h1, h2, h3, h4, h5, h6⟩ := num_back (l.drop p) (num (l.drop p)).1 (num (l.drop p)).2.1 (by rw [← hn])
      rw [List.length_drop] at h5
      refine ⟨by omega, X, by rw [← h.1]; exact h1, h6, ?_, ?_, by omega⟩
      · rw [h2, ← h.2, ← List.drop_drop, List.take_append_drop]
      · rw [h2, ← h.2, List.length_take, List.length_drop]; omega
    · rw [if_neg hn] at h; simp only [Prod.mk.injEq] at h; exact absurd h.2.2 hn
theorem word_at {l : List UInt8} {p q : Nat} {e v : Int} (h : wordR l p e = (v, q, 0)) : e = 0 ∧ ∃ X : Nat, v = (X : Int) ∧ X < 18446744073709551616 ∧ At l p (wide X) q := by
  obtain ⟨he, _, hp⟩ := wordR_ok (l := l) (p := p) (e := e) (by rw [h])
  subst he
  unfold wordR at h
  rw [if_neg (by simp), if_neg (by omega)] at h
  simp only [Prod.mk.injEq, and_true] at h
  have hlo := wideVal_lo ((l.drop p).take 8) 8
  have hfi := wideVal_fits ((l.drop p).take 8) 8 (by omega)
  obtain ⟨X, hX⟩ := Int.eq_ofNat_of_zero_le hlo
  have ht : ((l.drop p).take 8).length = 8 := by rw [List.length_take, List.length_drop]; omega
  have hb := wide_back _ ht X (by omega) hX
  refine ⟨rfl, X, by rw [← h.1]; exact hX, by omega, ?_, by rw [owide_len]; exact h.2.symm, by omega⟩
  rw [← hb, ← h.2, ← List.drop_drop, List.take_append_drop]
theorem text_at {l : List UInt8} {p q : Nat} {e m : Int} {s : ByteArray} (h : textR l p e m = (s, q, 0)) (hp : p ≤ l.length) : e = 0 ∧ At l p (short s.size ++ s.data.toList) q ∧ (s.size : Int) ≤ m := by
  unfold textR at h
  by_cases he : e ≠ 0
  · rw [if_pos he] at h; simp only [Prod.mk.injEq] at h; exact absurd h.2.2 he
  · rw [if_neg he] at h
    by_cases hn : (txt (l.drop p) m).2.2 = 0
    · rw [if_pos hn] at h
      simp only [Prod.mk.injEq, and_true] at h
      obtain ⟨z1, z2, z3, z4, z5⟩ := txt_zero (l.drop p) m hn
      obtain ⟨X, h1, h2, h3, h4, h5, h6⟩ := num_back (l.drop p) (num (l.drop p)).1 (num (l.drop p)).2.1 (by rw [← z2])
      unfold cutT at h
      rw [z5] at h
      simp only at h
      rw [h1] at h z3 z4
      generalize (num (l.drop p)).2.1 = k at *
      rw [List.length_drop] at h5
      simp only [List.length_drop] at z4
      simp only [Int.toNat_natCast] at h
      have hd : ((l.drop p).take (k + X)).drop k = ((l.drop p).drop k).take X := by rw [List.drop_take]; congr 1; omega
      have hs : s.data.toList = ((l.drop p).drop k).take X := by rw [← h.1, ← hd]
      have hsz : s.size = X := by
        have : s.data.toList.length = s.size := Array.length_toList
        rw [← this, hs, List.length_take, List.length_drop, List.length_drop]; omega
      refine ⟨by omega, ⟨?_, ?_, by omega⟩, by omega⟩
      · rw [hs, hsz, h2, ← h.2, ← List.drop_drop, ← List.drop_drop, List.append_assoc, List.take_append_drop, List.take_append_drop]
      · have l1 : (short s.size).length = k := by rw [hsz, h2, List.length_take, List.length_drop]; omega
        have l2 : s.data.toList.length = s.size := Array.length_toList
        rw [List.length_append, l1, l2, hsz]; omega
    · rw [if_neg hn] at h; simp only [Prod.mk.injEq] at h; exact absurd h.2.2 hn
/-- an entry as it may be read -/
def EntOk (x : Ent) : Prop := x.1.size ≤ 32 ∧ 0 ≤ x.2.2 ∧ x.2.2 < 18446744073709551616
theorem ent_at {l : List UInt8} {p : Nat} {e : Int} {x : Ent} (h : (entR l p e).1 = some x) (hp : p ≤ l.length) : e = 0 ∧ (entR l p e).2.2 = 0 ∧ At l p (entB x) (entR l p e).2.1 ∧ EntOk x := by
  have h2 := (entR_some h).2.2
  unfold entR at h h2 ⊢
  simp only at h h2 ⊢
  obtain ⟨⟨t1, tp, te⟩, ht⟩ : ∃ y, y = textR l p e 32 := ⟨_, rfl⟩
  rw [← ht] at h h2 ⊢
  simp only at h h2 ⊢
  obtain ⟨⟨bv, bp, be⟩, hb⟩ : ∃ y, y = byteR l tp te := ⟨_, rfl⟩
  rw [← hb] at h h2 ⊢
  simp only at h h2 ⊢
  obtain ⟨⟨xv, xp, xe⟩, hx⟩ : ∃ y, y = wordR l bp be := ⟨_, rfl⟩
  rw [← hx] at h h2 ⊢
  simp only at h h2 ⊢
  subst h2
  obtain ⟨rfl, X, rfl, hX, a3⟩ := word_at hx.symm
  obtain ⟨rfl, c, rfl, a2⟩ := byte_at hb.symm
  obtain ⟨rfl, a1, hs⟩ := text_at ht.symm hp
  by_cases hq : (0 : Int) ≠ 0 ∨ 1 < (c.toNat : Int)
  · rw [if_pos hq] at h; cases h
  · rw [if_neg hq] at h
    cases h
    refine ⟨rfl, rfl, ?_, by show t1.size ≤ 32; omega, by show (0 : Int) ≤ (X : Int); omega, by show (X : Int) < _; omega⟩
    have hc : c = if ((c.toNat : Int) == 1) = true then 1 else 0 := by
      have : c.toNat = 0 ∨ c.toNat = 1 := by omega
      rcases this with h0 | h0
      · rw [h0]; exact UInt8.toNat_inj.1 (by rw [h0]; rfl)
      · rw [h0]; exact UInt8.toNat_inj.1 (by rw [h0]; rfl)
    have := (a1.trans a2).trans a3
    unfold entB
    rw [← hc]
    simpa using this
theorem ents_at : ∀ (n : Nat) (l : List UInt8) (p : Nat) (e : Int) (acc R : List Ent), (entsR n l p e acc).1 = some R → (entsR n l p e acc).2.2 = 0 → p ≤ l.length → ∃ M, R = acc ++ M ∧ M.length = n ∧ e = 0 ∧ At l p (entsB M) (entsR n l p e acc).2.1 ∧ ∀ x ∈ M, EntOk x
  | 0, l, p, e, acc, R, h, h0, hp => by
    unfold entsR at h h0 ⊢
    simp only [Option.some.injEq] at h h0 ⊢
    exact ⟨[], by rw [h]; simp, rfl, h0, At.nil hp, fun x hx => by simp at hx⟩
  | n + 1, l, p, e, acc, R, h, h0, hp => by
    unfold entsR at h h0 ⊢
    cases hx : (entR l p e).1 with
    | none => rw [hx] at h; simp at h
    | some x =>
      rw [hx] at h h0
      simp only at h h0 ⊢
      obtain ⟨he, he', a1, ok⟩ := ent_at hx hp
      obtain ⟨M, h1, h2, _, a2, h4⟩ := ents_at n l _ _ _ R h h0 a1.le
      refine ⟨x :: M, by rw [h1]; simp, by simp [h2], he, ?_, fun y hy => ?_⟩
      · have := a1.trans a2
        simpa [entsB] using this
      · rcases List.mem_cons.1 hy with rfl | hy
        · exact ok
        · exact h4 y hy
theorem tree_rd {l : List UInt8} {p : Nat} {R : List Ent} (h : (treeR l p 0).1 = some R) (h0 : (treeR l p 0).2.2 = 0) (hp : p ≤ l.length) : At l p (short R.length ++ entsB R) (treeR l p 0).2.1 ∧ ∀ x ∈ R, EntOk x := by
  unfold treeR at h h0 ⊢
  obtain ⟨⟨u, up, ue⟩, hu⟩ : ∃ y, y = uintR l p 0 := ⟨_, rfl⟩
  rw [← hu] at h h0 ⊢
  simp only at h h0 ⊢
  have hup : up ≤ l.length := by
    by_cases h1 : ue = 0
    · subst h1
      obtain ⟨_, X, _, _, a⟩ := uint_at hu.symm hp
      exact a.le
    · unfold uintR at hu
      rw [if_neg (by simp)] at hu
      split at hu
      · cases hu; exact absurd rfl h1
      · cases hu; exact hp
  obtain ⟨M, h1, h2, h3, a2, h4⟩ := ents_at _ l _ _ _ R h h0 hup
  subst h3
  obtain ⟨_, X, rfl, hX, a1⟩ := uint_at hu.symm hp
  simp only [List.nil_append, Int.toNat_natCast] at h1 h2
  subst h1
  rw [h2]
  exact ⟨a1.trans a2, h4⟩
theorem pars_at : ∀ (n : Nat) (l : List UInt8) (p : Nat) (e : Int) (acc : List Int), (parsR n l p e acc).2.2 = 0 → p ≤ l.length → ∃ M, (parsR n l p e acc).1 = acc ++ M ∧ M.length = n ∧ e = 0 ∧ At l p (parsB M) (parsR n l p e acc).2.1 ∧ ∀ x ∈ M, 0 ≤ x ∧ x < 18446744073709551616
  | 0, l, p, e, acc, h0, hp => by
    unfold parsR at h0 ⊢
    exact ⟨[], by simp, rfl, h0, At.nil hp, fun x hx => by simp at hx⟩
  | n + 1, l, p, e, acc, h0, hp => by
    unfold parsR at h0 ⊢
    by_cases he : e ≠ 0
    · rw [if_pos he] at h0; exact absurd h0 he
    · rw [if_neg he] at h0 ⊢
      obtain ⟨⟨v, q, f⟩, hw⟩ : ∃ y, y = wordR l p e := ⟨_, rfl⟩
      rw [← hw] at h0 ⊢
      simp only at h0 ⊢
      have hq : q ≤ l.length := by
        by_cases hf : f = 0
        · subst hf
          exact (word_at hw.symm).2.elim fun X h => h.2.2.le
        · unfold wordR at hw
          rw [if_neg he] at hw
          split at hw
          · cases hw; exact hp
          · cases hw; exact absurd rfl hf
      obtain ⟨M, h1, h2, h3, a2, h4⟩ := pars_at n l q f _ h0 hq
      subst h3
      obtain ⟨he', X, rfl, hX, a1⟩ := word_at hw.symm
      refine ⟨(X : Int) :: M, by rw [h1]; simp, by simp [h2], he', ?_, fun y hy => ?_⟩
      · have := a1.trans a2
        simpa [parsB] using this
      · rcases List.mem_cons.1 hy with rfl | hy
        · omega
        · exact h4 y hy
end Go.Proofs.YtncagdfbgpdhfaaGreat

/- Plain: an object's bytes are read as the object, and what is read has just these bytes. -/
namespace Go.Proofs.YtncagdfbgpdhfaaGreat
open Go.RowKit

theorem du_wrap (D : Nat) (h : D < 18446744073709551616) : du (wrap64 (D : Int)) = D ∧ -9223372036854775808 ≤ wrap64 (D : Int) ∧ wrap64 (D : Int) < 9223372036854775808 := by
  have h1 := (du_eq (wrap64 (D : Int))).1
  simp [IntKind.wrap, IntKind.bits, IntKind.signed] at h1
  unfold wrap64 at *
  omega
theorem wrap_du (d : Int) (h : -9223372036854775808 ≤ d ∧ d < 9223372036854775808) : wrap64 (du d : Int) = d := by
  have h1 := (du_eq d).1
  simp [IntKind.wrap, IntKind.bits, IntKind.signed] at h1
  unfold wrap64
  omega
abbrev ComD := Int × List Int × ByteArray × Int × ByteArray
/-- a commit as it may be read -/
structure ComOk (c : ComD) : Prop where
  tree : 0 ≤ c.1 ∧ c.1 < 18446744073709551616
  pars : ∀ x ∈ c.2.1, 0 ≤ x ∧ x < 18446744073709551616
  num : c.2.1.length < 18446744073709551616
  au : c.2.2.1.size ≤ 64
  date : -9223372036854775808 ≤ c.2.2.2.1 ∧ c.2.2.2.1 < 9223372036854775808
  tx : c.2.2.2.2.size ≤ 1024
abbrev comBB (c : ComD) : List UInt8 := comB c.1 c.2.1 c.2.2.1 c.2.2.2.1 c.2.2.2.2
theorem com_rd {l : List UInt8} (h0 : (comR l 1 0).2.2 = 0) (hp : 1 ≤ l.length) (h1 : l.head? = some 99) : At l 0 (comBB (comR l 1 0).1) (comR l 1 0).2.1 ∧ ComOk (comR l 1 0).1 := by
  unfold comR at h0 ⊢
  simp only at h0 ⊢
  obtain ⟨⟨tv, tp, te⟩, ht⟩ : ∃ y, y = wordR l 1 0 := ⟨_, rfl⟩
  rw [← ht] at h0 ⊢
  simp only at h0 ⊢
  obtain ⟨⟨uv, up, ue⟩, hu⟩ : ∃ y, y = uintR l tp te := ⟨_, rfl⟩
  rw [← hu] at h0 ⊢
  simp only at h0 ⊢
  obtain ⟨⟨qs, qp, qe⟩, hq⟩ : ∃ y, y = parsR uv.toNat l up ue [] := ⟨_, rfl⟩
  rw [← hq] at h0 ⊢
  simp only at h0 ⊢
  obtain ⟨⟨av, ap, ae⟩, ha⟩ : ∃ y, y = textR l qp qe 64 := ⟨_, rfl⟩
  rw [← ha] at h0 ⊢
  simp only at h0 ⊢
  obtain ⟨⟨dv, dp, de⟩, hd⟩ : ∃ y, y = wordR l ap ae := ⟨_, rfl⟩
  rw [← hd] at h0 ⊢
  simp only at h0 ⊢
  obtain ⟨⟨xv, xp, xe⟩, hx⟩ : ∃ y, y = textR l dp de 1024 := ⟨_, rfl⟩
  rw [← hx] at h0 ⊢
  simp only at h0 ⊢
  subst h0
  have posW : ∀ {l : List UInt8} {p q : Nat} {e f v : Int}, wordR l p e = (v, q, f) → p ≤ l.length → q ≤ l.length := fun {l p q e f v} h hp => by
    unfold wordR at h
    split at h
    · cases h; exact hp
    · split at h
      · cases h; exact hp
      · cases h; omega
  have posU : ∀ {l : List UInt8} {p q : Nat} {e f v : Int}, uintR l p e = (v, q, f) → p ≤ l.length → q ≤ l.length := fun {l p q e f v} h hp => by
    unfold uintR at h
    have := num_le (l.drop p)
    rw [List.length_drop] at this
    split at h
    · cases h; exact hp
    · split at h
      · cases h; omega
      · cases h; exact hp
  have posT : ∀ {l : List UInt8} {p q : Nat} {e f m : Int} {v : ByteArray}, textR l p e m = (v, q, f) → p ≤ l.length → q ≤ l.length := fun {l p q e f m v} h hp => by
    unfold textR at h
    have := (txt_bounds (l.drop p) m).2
    rw [List.length_drop] at this
    split at h
    · cases h; exact hp
    · split at h
      · cases h; omega
      · cases h; exact hp
  have posP : ∀ (n : Nat) (l : List UInt8) (p : Nat) (e : Int) (acc : List Int), p ≤ l.length → (parsR n l p e acc).2.1 ≤ l.length := by
    intro n
    induction n with
    | zero => intro l p e acc hp; exact hp
    | succ n ih =>
      intro l p e acc hp
      unfold parsR
      split
      · exact hp
      · exact ih _ _ _ _ (posW rfl hp)
  have l1 := posW ht.symm hp
  have l2 := posU hu.symm l1
  have l3 : qp ≤ l.length := by have := posP uv.toNat l up ue [] l2; rw [← hq] at this; exact this
  have l4 := posT ha.symm l3
  have l5 := posW hd.symm l4
  obtain ⟨rfl, a6, s6⟩ := text_at hx.symm l5
  obtain ⟨rfl, D, rfl, hD, a5⟩ := word_at hd.symm
  obtain ⟨rfl, a4, s4⟩ := text_at ha.symm l3
  have hq2 := pars_at uv.toNat l up ue [] (by rw [← hq]) l2
  rw [← hq] at hq2
  simp only at hq2
  obtain ⟨M, m1, m2, m3, a3, m4⟩ := hq2
  subst m3
  obtain ⟨rfl, X, rfl, hX, a2⟩ := uint_at hu.symm l1
  obtain ⟨_, Y, rfl, hY, a1⟩ := word_at ht.symm
  simp only [List.nil_append, Int.toNat_natCast] at m1 m2
  subst m1
  obtain ⟨w1, w2, w3⟩ := du_wrap D hD
  refine ⟨?_, ⟨by show (0 : Int) ≤ (Y : Int) ∧ (Y : Int) < _; omega, m4, by show qs.length < _; omega, by show av.size ≤ 64; omega, ⟨w2, w3⟩, by show xv.size ≤ 1024; omega⟩⟩
  have a0 : At l 0 [99] 1 := by
    cases l with
    | nil => simp at h1
    | cons c t => simp at h1; subst h1; exact ⟨by simp, rfl, by simp⟩
  have := (((((a0.trans a1).trans a2).trans a3).trans a4).trans a5).trans a6
  unfold comBB comB
  simp only
  rw [w1, m2]
  simpa using this
/-- back -/
theorem word_of {l r : List UInt8} {p X : Nat} (h : l.drop p = wide X ++ r) (hX : X < 18446744073709551616) (hp : p ≤ l.length) : wordR l p 0 = ((X : Int), p + 8, 0) := by
  have hl := congrArg List.length h
  rw [List.length_drop, List.length_append, owide_len] at hl
  unfold wordR
  rw [if_neg (by simp), if_neg (by omega), h, List.take_append_of_le_length (by rw [owide_len]; omega), List.take_of_length_le (by rw [owide_len]; omega)]
  have := owideVal_wide X [] 8 (by omega) (by omega)
  rw [List.append_nil] at this
  rw [this]
  simp
theorem uint_of {l r : List UInt8} {p X : Nat} (h : l.drop p = short X ++ r) (hX : X < 18446744073709551616) : uintR l p 0 = ((X : Int), p + (short X).length, 0) := by
  unfold uintR
  rw [if_neg (by simp), h, onum_short_app X hX r, if_pos rfl]
theorem byte_of {l r : List UInt8} {p : Nat} {c : UInt8} (h : l.drop p = c :: r) : byteR l p 0 = ((c.toNat : Int), p + 1, 0) := by
  have hp : p < l.length := by
    have := congrArg List.length h
    rw [List.length_drop] at this
    simp at this
    omega
  unfold byteR
  rw [if_neg (by simp), if_pos hp]
  rw [List.drop_eq_getElem_cons hp] at h
  have h1 : l[p] = c := by cases h; rfl
  simp [bt, hp, h1]
theorem text_of {l r : List UInt8} {p : Nat} {m : Int} {s : ByteArray} (h : l.drop p = (short s.size ++ s.data.toList) ++ r) (hm : (s.size : Int) ≤ m) (hs : s.size < 18446744073709551616) : textR l p 0 m = (s, p + (short s.size ++ s.data.toList).length, 0) := by
  have hsl : s.data.toList.length = s.size := Array.length_toList
  rw [List.append_assoc] at h
  have hn := onum_short_app s.size hs (s.data.toList ++ r)
  have ht := txt_ok (short s.size ++ (s.data.toList ++ r)) m (by omega) (by rw [hn]) (by rw [hn]; simp only; omega) (by rw [hn]; simp only [List.length_append]; omega)
  rw [hn] at ht
  simp only [Int.toNat_natCast] at ht
  unfold textR cutT
  rw [if_neg (by simp), h, ht, if_pos rfl]
  simp only
  have e : ((short s.size ++ (s.data.toList ++ r)).take ((short s.size).length + s.size)).drop (short s.size).length = s.data.toList := by
    rw [← List.append_assoc, List.take_append_of_le_length (by simp [hsl]), List.take_of_length_le (by simp [hsl]), List.drop_append]
    simp
  rw [e, List.length_append, hsl]
theorem ent_of {l r : List UInt8} {p : Nat} {x : Ent} (h : l.drop p = entB x ++ r) (ok : EntOk x) (hp : p ≤ l.length) : entR l p 0 = (some x, p + (entB x).length, 0) := by
  obtain ⟨nm, fo, id⟩ := x
  obtain ⟨o1, o2, o3⟩ := ok
  simp only at o1 o2 o3
  obtain ⟨X, rfl⟩ := Int.eq_ofNat_of_zero_le o2
  unfold entB at h ⊢
  simp only [Int.toNat_natCast] at h ⊢
  rw [List.append_assoc, List.append_assoc] at h
  have ht := text_of (m := 32) h (by omega) (by omega)
  obtain ⟨a1, h2⟩ := At.of h hp
  have hb := byte_of (c := if fo = true then 1 else 0) (by rw [h2]; rfl)
  have h3 : l.drop (p + (short nm.size ++ nm.data.toList).length + 1) = wide X ++ r := by rw [← List.drop_drop, h2]; rfl
  have hle : p + (short nm.size ++ nm.data.toList).length + 1 ≤ l.length := by
    have := congrArg List.length h2
    rw [List.length_drop] at this
    simp only [List.length_append, List.length_cons, List.length_nil] at this
    have := a1.le
    simp only [List.length_append] at this ⊢
    omega
  have hw := word_of h3 (by omega) hle
  unfold entR
  rw [ht]
  simp only
  rw [hb]
  simp only
  rw [hw]
  simp only
  rw [if_neg (by cases fo <;> simp)]
  have e1 : (((if fo = true then (1 : UInt8) else 0).toNat : Int) == 1) = fo := by cases fo <;> rfl
  rw [e1]
  simp only [List.length_append, List.length_cons, List.length_nil, owide_len, Prod.mk.injEq, and_true, true_and]
  omega
theorem ents_of : ∀ (M : List Ent) (l r : List UInt8) (p : Nat) (acc : List Ent), l.drop p = entsB M ++ r → (∀ x ∈ M, EntOk x) → p ≤ l.length → entsR M.length l p 0 acc = (some (acc ++ M), p + (entsB M).length, 0)
  | [], l, r, p, acc, h, _, hp => by simp [entsR, entsB]
  | x :: M, l, r, p, acc, h, ok, hp => by
    have h' : l.drop p = entB x ++ (entsB M ++ r) := by rw [h]; simp [entsB]
    have he := ent_of h' (ok x (by simp)) hp
    obtain ⟨a1, h2⟩ := At.of h' hp
    have ih := ents_of M l r (p + (entB x).length) (acc ++ [x]) h2 (fun y hy => ok y (by simp [hy])) a1.le
    rw [List.length_cons, entsR, he]
    simp only
    rw [ih]
    simp [entsB]
    omega
theorem tree_of {l r : List UInt8} {p : Nat} {R : List Ent} (h : l.drop p = (short R.length ++ entsB R) ++ r) (ok : ∀ x ∈ R, EntOk x) (hp : p ≤ l.length) (hR : R.length < 18446744073709551616) : treeR l p 0 = (some R, p + (short R.length ++ entsB R).length, 0) := by
  rw [List.append_assoc] at h
  have hu := uint_of h hR
  obtain ⟨a1, h2⟩ := At.of h hp
  have he := ents_of R l r _ [] h2 ok a1.le
  unfold treeR
  rw [hu]
  simp only [Int.toNat_natCast]
  rw [he]
  simp
  omega
theorem pars_of : ∀ (M : List Int) (l r : List UInt8) (p : Nat) (acc : List Int), l.drop p = parsB M ++ r → (∀ x ∈ M, 0 ≤ x ∧ x < 18446744073709551616) → p ≤ l.length → parsR M.length l p 0 acc = (acc ++ M, p + (parsB M).length, 0)
  | [], l, r, p, acc, h, _, hp => by simp [parsR, parsB]
  | x :: M, l, r, p, acc, h, ok, hp => by
    obtain ⟨o1, o2⟩ := ok x (by simp)
    obtain ⟨X, rfl⟩ := Int.eq_ofNat_of_zero_le o1
    have h' : l.drop p = wide X ++ (parsB M ++ r) := by rw [h]; simp [parsB]
    have he := word_of h' (by omega) hp
    obtain ⟨a1, h2⟩ := At.of h' hp
    rw [owide_len] at a1 h2
    have ih := pars_of M l r (p + 8) (acc ++ [(X : Int)]) h2 (fun y hy => ok y (by simp [hy])) a1.le
    rw [List.length_cons, parsR, if_neg (by simp), he]
    simp only
    rw [ih]
    simp [parsB, owide_len]
    omega
theorem com_of {l r : List UInt8} {c : ComD} (h : l = comBB c ++ r) (ok : ComOk c) : comR l 1 0 = (c, (comBB c).length, 0) := by
  obtain ⟨t, ps, au, d, tx⟩ := c
  obtain ⟨o1, o2, o3, o4, o5, o6⟩ := ok
  simp only at o1 o2 o3 o4 o5 o6
  obtain ⟨X, rfl⟩ := Int.eq_ofNat_of_zero_le o1.1
  have h1 : l.drop 1 = wide X ++ (short ps.length ++ (parsB ps ++ ((short au.size ++ au.data.toList) ++ (wide (du d) ++ ((short tx.size ++ tx.data.toList) ++ r))))) := by
    rw [h]; unfold comBB comB; simp
  have hp1 : 1 ≤ l.length := by rw [h]; unfold comBB comB; simp
  have e1 := word_of h1 (by omega) hp1
  obtain ⟨a1, h2⟩ := At.of h1 hp1
  rw [owide_len] at a1 h2
  have e2 := uint_of h2 o3
  obtain ⟨a2, h3⟩ := At.of h2 a1.le
  have e3 := pars_of ps l _ _ [] h3 o2 a2.le
  obtain ⟨a3, h4⟩ := At.of h3 a2.le
  have e4 := text_of (m := 64) h4 (by omega) (by omega)
  obtain ⟨a4, h5⟩ := At.of h4 a3.le
  have e5 := word_of h5 (du_eq d).2 a4.le
  obtain ⟨a5, h6⟩ := At.of h5 a4.le
  rw [owide_len] at a5 h6
  have e6 := text_of (m := 1024) h6 (by omega) (by omega)
  unfold comR
  simp only
  rw [e1]
  simp only
  rw [e2]
  simp only [Int.toNat_natCast]
  rw [e3]
  simp only
  rw [e4]
  simp only
  rw [e5]
  simp only
  rw [e6, wrap_du d o5]
  simp only [List.nil_append, Prod.mk.injEq, and_true, true_and]
  unfold comBB comB
  simp only [List.length_append, List.length_cons, List.length_nil, owide_len]
/-- an object's bytes, and what holds of what is read -/
def obB : Ob → List UInt8
  | .blob b => 98 :: b
  | .tree l => treeB l
  | .com c => comBB c
def ObOk : Ob → Prop
  | .blob _ => True
  | .tree l => (∀ x ∈ l, EntOk x) ∧ l.length < 18446744073709551616
  | .com c => ComOk c
theorem head_byte (l : List UInt8) (c : UInt8) (h : (byteR l 0 0).1 = (c.toNat : Int)) (hc : c ≠ 0) : l.head? = some c := by
  have hne : (byteR l 0 0).1 ≠ 0 := by rw [h]; intro e; exact hc (UInt8.toNat_inj.1 (by simp; omega))
  obtain ⟨_, hl⟩ := byte_head hne
  cases l with
  | nil => simp at hl
  | cons x t =>
    unfold byteR at h
    rw [if_neg (by simp), if_pos (by simp)] at h
    simp [bt] at h
    simp
    exact UInt8.toNat_inj.1 (by omega)
theorem decR_bytes {l : List UInt8} {o : Ob} (h : decR l = some o) (hl : l.length ≤ 549755813888) : obB o = l ∧ ObOk o := by
  unfold decR at h
  by_cases h1 : (byteR l 0 0).1 = 98
  · rw [if_pos h1] at h
    cases h
    have hh := head_byte l 98 h1 (by decide)
    cases l with
    | nil => simp at hh
    | cons x t => simp at hh; subst hh; exact ⟨rfl, trivial⟩
  · rw [if_neg h1] at h
    by_cases h2 : (byteR l 0 0).1 = 116
    · rw [if_pos h2] at h
      have hh := head_byte l 116 h2 (by decide)
      have hl1 : 1 ≤ l.length := by cases l with | nil => simp at hh | cons x t => simp
      cases ht : (treeR l 1 0).1 with
      | none => rw [ht] at h; simp at h
      | some R =>
        rw [ht] at h
        simp only at h
        by_cases hq : (treeR l 1 0).2.2 = 0 ∧ (treeR l 1 0).2.1 = l.length
        · rw [if_pos hq] at h
          cases h
          obtain ⟨a, ok⟩ := tree_rd ht hq.1 hl1
          have a0 : At l 0 [116] 1 := by
            cases l with
            | nil => simp at hh
            | cons c t => simp at hh; subst hh; exact ⟨by simp, rfl, by simp⟩
          have a2 := a0.trans a
          have e := a2.eq
          rw [hq.2, List.drop_length, List.append_nil, List.drop_zero] at e
          refine ⟨by rw [e]; rfl, ok, ?_⟩
          have hlen := congrArg List.length e
          have : R.length ≤ (entsB R).length := by
            clear e hlen a2 a0 a ht hq
            induction R with
            | nil => simp
            | cons x R ih =>
              have := ih (fun y hy => ok y (by simp [hy]))
              simp only [entsB, List.map_cons, List.flatten_cons, List.length_append, List.length_cons] at this ⊢
              have : 8 ≤ (entB x).length := by simp [entB, owide_len]; omega
              omega
          simp only [List.length_append, List.length_cons] at hlen
          omega
        · rw [if_neg hq] at h; cases h
    · rw [if_neg h2] at h
      by_cases h3 : (byteR l 0 0).1 = 99
      · rw [if_pos h3] at h
        have hh := head_byte l 99 h3 (by decide)
        have hl1 : 1 ≤ l.length := by cases l with | nil => simp at hh | cons x t => simp
        by_cases hq : (comR l 1 0).2.2 = 0 ∧ (comR l 1 0).2.1 = l.length
        · rw [if_pos hq] at h
          cases h
          obtain ⟨a, ok⟩ := com_rd hq.1 hl1 hh
          have e := a.eq
          rw [hq.2, List.drop_length, List.append_nil, List.drop_zero] at e
          exact ⟨e.symm, ok⟩
        · rw [if_neg hq] at h; cases h
      · rw [if_neg h3] at h; cases h
theorem byte_cons (c : UInt8) (t : List UInt8) : (byteR (c :: t) 0 0).1 = (c.toNat : Int) := by
  have := byte_of (l := c :: t) (p := 0) (c := c) (r := t) rfl
  rw [this]
theorem decR_obB (o : Ob) (ok : ObOk o) (r : List UInt8) : decR (obB o ++ r) = match o with
    | .blob b => some (.blob (b ++ r))
    | .tree l => if r = [] then some (.tree l) else none
    | .com c => if r = [] then some (.com c) else none := by
  cases o with
  | blob b =>
    show decR (98 :: (b ++ r)) = _
    unfold decR
    rw [byte_cons, if_pos (by decide)]
    rfl
  | tree l =>
    have hd : (obB (.tree l) ++ r).drop 1 = (short l.length ++ entsB l) ++ r := rfl
    have ht := tree_of hd ok.1 (by simp [obB, treeB]) ok.2
    have hb : (byteR (obB (.tree l) ++ r) 0 0).1 = 116 := byte_cons 116 _
    unfold decR
    rw [hb, if_neg (by decide), if_pos rfl, ht]
    simp only
    by_cases hr : r = []
    · subst hr
      rw [if_pos rfl, if_pos ⟨trivial, by simp [obB, treeB]; omega⟩]
    · rw [if_neg hr, if_neg]
      rintro ⟨_, hx⟩
      apply hr
      apply List.eq_nil_of_length_eq_zero
      simp [obB, treeB] at hx
      omega
  | com c =>
    have ht := com_of (l := obB (.com c) ++ r) rfl ok
    have hb : (byteR (obB (.com c) ++ r) 0 0).1 = 99 := by
      have : obB (.com c) ++ r = 99 :: (obB (.com c) ++ r).drop 1 := by simp [obB, comBB, comB]
      rw [this]
      exact byte_cons 99 _
    unfold decR
    rw [hb, if_neg (by decide), if_neg (by decide), if_pos rfl, ht]
    simp only
    by_cases hr : r = []
    · subst hr
      rw [if_pos rfl, if_pos ⟨trivial, by simp [obB]⟩]
    · rw [if_neg hr, if_neg]
      rintro ⟨_, hx⟩
      apply hr
      apply List.eq_nil_of_length_eq_zero
      simp [obB] at hx
      exact List.length_eq_zero_iff.2 hx
end Go.Proofs.YtncagdfbgpdhfaaGreat
