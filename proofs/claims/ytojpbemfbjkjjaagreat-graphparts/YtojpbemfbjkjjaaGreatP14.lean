import Derived.Test.YtojpbemfbjkjjaaGreatP11
import Derived.Test.YtojpbemfbjkjjaaGreatP13
/- Plain facts: the bytes of a commit tell the commit. -/
namespace Go.Proofs.YtojpbemfbjkjjaaGreat
open Go.RowKit

theorem ofNat_inj {a b : Nat} (ha : a < 256) (hb : b < 256) (h : UInt8.ofNat a = UInt8.ofNat b) : a = b := by
  have := congrArg UInt8.toNat h
  rw [UInt8.toNat_ofNat', UInt8.toNat_ofNat'] at this
  omega
theorem ofNat_mod {a b : Nat} (h : UInt8.ofNat a = UInt8.ofNat b) : a % 256 = b % 256 := by
  have := congrArg UInt8.toNat h
  rw [UInt8.toNat_ofNat', UInt8.toNat_ofNat'] at this
  omega
theorem shortF_inj : ∀ (f x y : Nat) (r s : List UInt8), x < 2 ^ (7 * (f + 1)) → y < 2 ^ (7 * (f + 1)) → shortF f x ++ r = shortF f y ++ s → x = y ∧ r = s := by
  intro f
  induction f with
  | zero =>
    intro x y r s hx hy h
    simp only [shortF, List.singleton_append, List.cons.injEq] at h
    simp at hx hy
    exact ⟨ofNat_inj (by omega) (by omega) h.1, h.2⟩
  | succ f ih =>
    intro x y r s hx hy h
    have e : 2 ^ (7 * (f + 1 + 1)) = 128 * 2 ^ (7 * (f + 1)) := by rw [show 7 * (f + 1 + 1) = 7 + 7 * (f + 1) by omega, Nat.pow_add]
    rw [e] at hx hy
    by_cases h1 : x < 128 <;> by_cases h2 : y < 128
    · rw [shortF_low _ _ h1, shortF_low _ _ h2] at h
      simp only [List.singleton_append, List.cons.injEq] at h
      exact ⟨ofNat_inj (by omega) (by omega) h.1, h.2⟩
    · rw [shortF_low _ _ h1, shortF_high _ _ h2] at h
      simp only [List.cons_append, List.cons.injEq] at h
      have := ofNat_inj (by omega) (by omega) h.1
      omega
    · rw [shortF_high _ _ h1, shortF_low _ _ h2] at h
      simp only [List.cons_append, List.cons.injEq] at h
      have := ofNat_inj (by omega) (by omega) h.1
      omega
    · rw [shortF_high _ _ h1, shortF_high _ _ h2] at h
      simp only [List.cons_append, List.cons.injEq] at h
      have e1 := ofNat_inj (by omega) (by omega) h.1
      obtain ⟨e2, e3⟩ := ih (x / 128) (y / 128) r s (by omega) (by omega) h.2
      exact ⟨by omega, e3⟩
theorem short_inj {x y : Nat} {r s : List UInt8} (hx : x < 1099511627776) (hy : y < 1099511627776) (h : short x ++ r = short y ++ s) : x = y ∧ r = s :=
  shortF_inj 9 x y r s (Nat.lt_of_lt_of_le hx (by decide)) (Nat.lt_of_lt_of_le hy (by decide)) h
theorem wide_inj {x y : Nat} (hx : x < 18446744073709551616) (hy : y < 18446744073709551616) (h : wide x = wide y) : x = y := by
  simp only [wide, wideTo, List.nil_append, List.cons_append, List.cons.injEq, and_true] at h
  obtain ⟨h0, h1, h2, h3, h4, h5, h6, h7⟩ := h
  have h0 := ofNat_mod h0
  have h1 := ofNat_mod h1
  have h2 := ofNat_mod h2
  have h3 := ofNat_mod h3
  have h4 := ofNat_mod h4
  have h5 := ofNat_mod h5
  have h6 := ofNat_mod h6
  have h7 := ofNat_mod h7
  simp at h0 h1 h2 h3 h4 h5 h6 h7
  omega
theorem wide_app {x y : Nat} {r s : List UInt8} (hx : x < 18446744073709551616) (hy : y < 18446744073709551616) (h : wide x ++ r = wide y ++ s) : x = y ∧ r = s := by
  obtain ⟨h1, h2⟩ := List.append_inj h (by rw [owide_len, owide_len])
  exact ⟨wide_inj hx hy h1, h2⟩
theorem text_app {a b : ByteArray} {r s : List UInt8} (ha : a.size < 1099511627776) (hb : b.size < 1099511627776) (h : (short a.size ++ a.data.toList) ++ r = (short b.size ++ b.data.toList) ++ s) : a = b ∧ r = s := by
  rw [List.append_assoc, List.append_assoc] at h
  obtain ⟨h1, h2⟩ := short_inj ha hb h
  obtain ⟨h3, h4⟩ := List.append_inj h2 (by have e1 : a.data.toList.length = a.size := Array.length_toList; have e2 : b.data.toList.length = b.size := Array.length_toList; omega)
  refine ⟨?_, h4⟩
  cases a; cases b
  simpa using h3
theorem pars_app : ∀ {l m : List Int} {r s : List UInt8}, l.length = m.length → (∀ x ∈ l, 0 ≤ x ∧ x < 18446744073709551616) → (∀ x ∈ m, 0 ≤ x ∧ x < 18446744073709551616) → parsB l ++ r = parsB m ++ s → l = m ∧ r = s := by
  intro l
  induction l with
  | nil =>
    intro m r s hl _ _ h
    cases m with
    | nil => simpa [parsB] using h
    | cons y m => simp at hl
  | cons x l ih =>
    intro m r s hl h1 h2 h
    cases m with
    | nil => simp at hl
    | cons y m =>
      simp only [parsB, List.map_cons, List.flatten_cons, List.append_assoc] at h
      have b1 := h1 x (by simp)
      have b2 := h2 y (by simp)
      obtain ⟨e1, e2⟩ := wide_app (by omega) (by omega) h
      obtain ⟨e3, e4⟩ := ih (by simpa using hl) (fun z hz => h1 z (by simp [hz])) (fun z hz => h2 z (by simp [hz])) e2
      exact ⟨by rw [e3, show x = y by omega], e4⟩
theorem du_inj {d e : Int} (hd : -9223372036854775808 ≤ d ∧ d < 9223372036854775808) (he : -9223372036854775808 ≤ e ∧ e < 9223372036854775808) (h : du d = du e) : d = e := by
  have h1 := (du_eq d).1
  have h2 := (du_eq e).1
  rw [h] at h1
  rw [← h1] at h2
  simp [IntKind.wrap, IntKind.bits, IntKind.signed] at h2
  omega
theorem comB_inj {w w' : World} {t t' : Int} {pa pa' : Option Addr} {pn pn' pc pc' : Nat} {ps ps' : List Int} {au au' : ByteArray} {d d' : Int} {tx tx' : ByteArray} (h : Com w t pa pn pc ps au d tx) (h' : Com w' t' pa' pn' pc' ps' au' d' tx')
    (h0 : comErr t ps au tx = 0) (h0' : comErr t' ps' au' tx' = 0) (he : comB t ps au d tx = comB t' ps' au' d' tx') : t = t' ∧ ps = ps' ∧ au = au' ∧ d = d' ∧ tx = tx' := by
  obtain ⟨_, f1, f2, f3⟩ := com_fits h0
  obtain ⟨_, g1, g2, g3⟩ := com_fits h0'
  have a1 := h.tree
  have a2 := h'.tree
  simp only [comB, List.append_assoc] at he
  simp only [List.cons_append, List.nil_append, List.cons.injEq, true_and] at he
  obtain ⟨e1, he⟩ := wide_app (by omega) (by omega) he
  obtain ⟨e2, he⟩ := short_inj (by omega) (by omega) he
  obtain ⟨e3, he⟩ := pars_app e2 h.pars h'.pars he
  have he2 : (short au.size ++ au.data.toList) ++ (wide (du d) ++ (short tx.size ++ tx.data.toList)) = (short au'.size ++ au'.data.toList) ++ (wide (du d') ++ (short tx'.size ++ tx'.data.toList)) := by simpa only [List.append_assoc] using he
  obtain ⟨e4, he⟩ := text_app (by omega) (by omega) he2
  obtain ⟨e5, he⟩ := wide_app (du_eq d).2 (du_eq d').2 he
  have he3 : (short tx.size ++ tx.data.toList) ++ [] = (short tx'.size ++ tx'.data.toList) ++ [] := by rw [List.append_nil, List.append_nil]; exact he
  obtain ⟨e6, _⟩ := text_app (by omega) (by omega) he3
  exact ⟨by omega, e3, e4, du_inj h.date h'.date e5, e6⟩
end Go.Proofs.YtojpbemfbjkjjaaGreat

/- Plain: what is read is what was written, and the other way round. -/
namespace Go.Proofs.YtojpbemfbjkjjaaGreat
open Go.RowKit

theorem wideVal_inj (t u : List UInt8) : ∀ k, wideVal t k = wideVal u k → ∀ i, i < k → bt t i = bt u i := by
  intro k
  induction k with
  | zero => intro _ i hi; omega
  | succ k ih =>
    intro h i hi
    rw [wideVal_succ, wideVal_succ] at h
    have a0 := bt_lo t k
    have a1 := bt_hi t k
    have b0 := bt_lo u k
    have b1 := bt_hi u k
    by_cases e : i = k
    · subst e; omega
    · exact ih (by omega) i (by omega)
theorem bt_ext {t u : List UInt8} (hl : t.length = u.length) (h : ∀ i, i < t.length → bt t i = bt u i) : t = u := by
  refine List.ext_getElem hl fun i h1 h2 => ?_
  have := h i h1
  simp only [bt, List.getD, List.getElem?_eq_getElem h1, List.getElem?_eq_getElem h2, Option.getD_some] at this
  exact UInt8.toNat_inj.1 (by omega)
theorem wide_back (t : List UInt8) (ht : t.length = 8) (X : Nat) (hX : X < 18446744073709551616) (h : wideVal t 8 = (X : Int)) : t = wide X := by
  have hw := owideVal_wide X [] 8 (by omega) (by omega)
  rw [List.append_nil] at hw
  have e : wideVal t 8 = wideVal (wide X) 8 := by rw [h, hw]; simp
  exact bt_ext (by rw [ht, owide_len]) (fun i hi => wideVal_inj t (wide X) 8 e i (by omega))
/-- from p to q lie the bytes A -/
structure At (l : List UInt8) (p : Nat) (A : List UInt8) (q : Nat) : Prop where
  eq : l.drop p = A ++ l.drop q
  len : q = p + A.length
  le : q ≤ l.length
theorem At.trans {l : List UInt8} {p q r : Nat} {A B : List UInt8} (h : At l p A q) (k : At l q B r) : At l p (A ++ B) r :=
  ⟨by rw [h.eq, k.eq, List.append_assoc], by rw [k.len, h.len, List.length_append]; omega, k.le⟩
theorem At.nil {l : List UInt8} {p : Nat} (h : p ≤ l.length) : At l p [] p := ⟨rfl, by simp, h⟩
theorem At.of {l : List UInt8} {p : Nat} {A r : List UInt8} (h : l.drop p = A ++ r) (hp : p ≤ l.length) : At l p A (p + A.length) ∧ l.drop (p + A.length) = r := by
  have e : l.drop (p + A.length) = r := by rw [← List.drop_drop, h]; simp
  refine ⟨⟨by rw [e, h], rfl, ?_⟩, e⟩
  have := congrArg List.length h
  rw [List.length_drop, List.length_append] at this
  omega
/-- forth -/
theorem byte_at {l : List UInt8} {p q : Nat} {e v : Int} (h : byteR l p e = (v, q, 0)) : e = 0 ∧ ∃ c : UInt8, v = (c.toNat : Int) ∧ At l p [c] q := by
  obtain ⟨he, _, hp⟩ := byteR_ok (l := l) (p := p) (e := e) (by rw [h])
  subst he
  unfold byteR at h
  rw [if_neg (by simp), if_pos hp] at h
  simp only [Prod.mk.injEq, and_true] at h
  refine ⟨rfl, l[p], ?_, ?_⟩
  · rw [← h.1]; simp [bt, hp]
  · exact ⟨by rw [List.drop_eq_getElem_cons hp, ← h.2]; rfl, by rw [← h.2]; rfl, by omega⟩
theorem uint_at {l : List UInt8} {p q : Nat} {e v : Int} (h : uintR l p e = (v, q, 0)) (hp : p ≤ l.length) : e = 0 ∧ ∃ X : Nat, v = (X : Int) ∧ X < 18446744073709551616 ∧ At l p (short X) q := by
  unfold uintR at h
  by_cases he : e ≠ 0
  · rw [if_pos he] at h; simp only [Prod.mk.injEq] at h; exact absurd h.2.2 he
  · rw [if_neg he] at h
    by_cases hn : (num (l.drop p)).2.2 = 0
    · rw [if_pos hn] at h
      simp only [Prod.mk.injEq, and_true] at h
      obtain ⟨X, h1, h2, h3, h4, h5, h6⟩ := num_back (l.drop p) (num (l.drop p)).1 (num (l.drop p)).2.1 (by rw [← hn])
      rw [List.length_drop] at h5
      refine ⟨by omega, X, by rw [← h.1]; exact h1, h6, ?_, ?_, by omega⟩
      · rw [h2, ← h.2, ← List.drop_drop, List.take_append_drop]
      · rw [h2, ← h.2, List.length_take, List.length_drop]; omega
    · rw [if_neg hn] at h; simp only [Prod.mk.injEq] at h; exact absurd h.2.2 hn
theorem word_at {l : List UInt8} {p q : Nat} {e v : Int} (h : wordR l p e = (v, q, 0)) : e = 0 ∧ ∃ X : Nat, v = (X : Int) ∧ X < 18446744073709551616 ∧ At l p (wide X) q := by
  obtain ⟨he, _, hp⟩ := wordR_ok (l := l) (p := p) (e := e) (by rw [h])
  subst he
  unfold wordR at h
  rw [if_neg (by simp), if_neg (by omega)] at h
  simp only [Prod.mk.injEq, and_true] at h
  have hlo := wideVal_lo ((l.drop p).take 8) 8
  have hfi := wideVal_fits ((l.drop p).take 8) 8 (by omega)
  obtain ⟨X, hX⟩ := Int.eq_ofNat_of_zero_le hlo
  have ht : ((l.drop p).take 8).length = 8 := by rw [List.length_take, List.length_drop]; omega
  have hb := wide_back _ ht X (by omega) hX
  refine ⟨rfl, X, by rw [← h.1]; exact hX, by omega, ?_, by rw [owide_len]; exact h.2.symm, by omega⟩
  rw [← hb, ← h.2, ← List.drop_drop, List.take_append_drop]
theorem text_at {l : List UInt8} {p q : Nat} {e m : Int} {s : ByteArray} (h : textR l p e m = (s, q, 0)) (hp : p ≤ l.length) : e = 0 ∧ At l p (short s.size ++ s.data.toList) q ∧ (s.size : Int) ≤ m := by
  unfold textR at h
  by_cases he : e ≠ 0
  · rw [if_pos he] at h; simp only [Prod.mk.injEq] at h; exact absurd h.2.2 he
  · rw [if_neg he] at h
    by_cases hn : (txt (l.drop p) m).2.2 = 0
    · rw [if_pos hn] at h
      simp only [Prod.mk.injEq, and_true] at h
      obtain ⟨z1, z2, z3, z4, z5⟩ := txt_zero (l.drop p) m hn
      obtain ⟨X, h1, h2, h3, h4, h5, h6⟩ := num_back (l.drop p) (num (l.drop p)).1 (num (l.drop p)).2.1 (by rw [← z2])
      unfold cutT at h
      rw [z5] at h
      simp only at h
      rw [h1] at h z3 z4
      generalize (num (l.drop p)).2.1 = k at *
      rw [List.length_drop] at h5
      simp only [List.length_drop] at z4
      simp only [Int.toNat_natCast] at h
      have hd : ((l.drop p).take (k + X)).drop k = ((l.drop p).drop k).take X := by rw [List.drop_take]; congr 1; omega
      have hs : s.data.toList = ((l.drop p).drop k).take X := by rw [← h.1, ← hd]
      have hsz : s.size = X := by
        have : s.data.toList.length = s.size := Array.length_toList
        rw [← this, hs, List.length_take, List.length_drop, List.length_drop]; omega
      refine ⟨by omega, ⟨?_, ?_, by omega⟩, by omega⟩
      · rw [hs, hsz, h2, ← h.2, ← List.drop_drop, ← List.drop_drop, List.append_assoc, List.take_append_drop, List.take_append_drop]
      · have l1 : (short s.size).length = k := by rw [hsz, h2, List.length_take, List.length_drop]; omega
        have l2 : s.data.toList.length = s.size := Array.length_toList
        rw [List.length_append, l1, l2, hsz]; omega
    · rw [if_neg hn] at h; simp only [Prod.mk.injEq] at h; exact absurd h.2.2 hn
/-- an entry as it may be read -/
def EntOk (x : Ent) : Prop := x.1.size ≤ 32 ∧ 0 ≤ x.2.2 ∧ x.2.2 < 18446744073709551616
theorem ent_at {l : List UInt8} {p : Nat} {e : Int} {x : Ent} (h : (entR l p e).1 = some x) (hp : p ≤ l.length) : e = 0 ∧ (entR l p e).2.2 = 0 ∧ At l p (entB x) (entR l p e).2.1 ∧ EntOk x := by
  have h2 := (entR_some h).2.2
  unfold entR at h h2 ⊢
  simp only at h h2 ⊢
  obtain ⟨⟨t1, tp, te⟩, ht⟩ : ∃ y, y = textR l p e 32 := ⟨_, rfl⟩
  rw [← ht] at h h2 ⊢
  simp only at h h2 ⊢
  obtain ⟨⟨bv, bp, be⟩, hb⟩ : ∃ y, y = byteR l tp te := ⟨_, rfl⟩
  rw [← hb] at h h2 ⊢
  simp only at h h2 ⊢
  obtain ⟨⟨xv, xp, xe⟩, hx⟩ : ∃ y, y = wordR l bp be := ⟨_, rfl⟩
  rw [← hx] at h h2 ⊢
  simp only at h h2 ⊢
  subst h2
  obtain ⟨rfl, X, rfl, hX, a3⟩ := word_at hx.symm
  obtain ⟨rfl, c, rfl, a2⟩ := byte_at hb.symm
  obtain ⟨rfl, a1, hs⟩ := text_at ht.symm hp
  by_cases hq : (0 : Int) ≠ 0 ∨ 1 < (c.toNat : Int)
  · rw [if_pos hq] at h; cases h
  · rw [if_neg hq] at h
    cases h
    refine ⟨rfl, rfl, ?_, by show t1.size ≤ 32; omega, by show (0 : Int) ≤ (X : Int); omega, by show (X : Int) < _; omega⟩
    have hc : c = if ((c.toNat : Int) == 1) = true then 1 else 0 := by
      have : c.toNat = 0 ∨ c.toNat = 1 := by omega
      rcases this with h0 | h0
      · rw [h0]; exact UInt8.toNat_inj.1 (by rw [h0]; rfl)
      · rw [h0]; exact UInt8.toNat_inj.1 (by rw [h0]; rfl)
    have := (a1.trans a2).trans a3
    unfold entB
    rw [← hc]
    simpa using this
theorem ents_at : ∀ (n : Nat) (l : List UInt8) (p : Nat) (e : Int) (acc R : List Ent), (entsR n l p e acc).1 = some R → (entsR n l p e acc).2.2 = 0 → p ≤ l.length → ∃ M, R = acc ++ M ∧ M.length = n ∧ e = 0 ∧ At l p (entsB M) (entsR n l p e acc).2.1 ∧ ∀ x ∈ M, EntOk x
  | 0, l, p, e, acc, R, h, h0, hp => by
    unfold entsR at h h0 ⊢
    simp only [Option.some.injEq] at h h0 ⊢
    exact ⟨[], by rw [h]; simp, rfl, h0, At.nil hp, fun x hx => by simp at hx⟩
  | n + 1, l, p, e, acc, R, h, h0, hp => by
    unfold entsR at h h0 ⊢
    cases hx : (entR l p e).1 with
    | none => rw [hx] at h; simp at h
    | some x =>
      rw [hx] at h h0
      simp only at h h0 ⊢
      obtain ⟨he, he', a1, ok⟩ := ent_at hx hp
      obtain ⟨M, h1, h2, _, a2, h4⟩ := ents_at n l _ _ _ R h h0 a1.le
      refine ⟨x :: M, by rw [h1]; simp, by simp [h2], he, ?_, fun y hy => ?_⟩
      · have := a1.trans a2
        simpa [entsB] using this
      · rcases List.mem_cons.1 hy with rfl | hy
        · exact ok
        · exact h4 y hy
theorem tree_rd {l : List UInt8} {p : Nat} {R : List Ent} (h : (treeR l p 0).1 = some R) (h0 : (treeR l p 0).2.2 = 0) (hp : p ≤ l.length) : At l p (short R.length ++ entsB R) (treeR l p 0).2.1 ∧ ∀ x ∈ R, EntOk x := by
  unfold treeR at h h0 ⊢
  obtain ⟨⟨u, up, ue⟩, hu⟩ : ∃ y, y = uintR l p 0 := ⟨_, rfl⟩
  rw [← hu] at h h0 ⊢
  simp only at h h0 ⊢
  have hup : up ≤ l.length := by
    by_cases h1 : ue = 0
    · subst h1
      obtain ⟨_, X, _, _, a⟩ := uint_at hu.symm hp
      exact a.le
    · unfold uintR at hu
      rw [if_neg (by simp)] at hu
      split at hu
      · cases hu; exact absurd rfl h1
      · cases hu; exact hp
  obtain ⟨M, h1, h2, h3, a2, h4⟩ := ents_at _ l _ _ _ R h h0 hup
  subst h3
  obtain ⟨_, X, rfl, hX, a1⟩ := uint_at hu.symm hp
  simp only [List.nil_append, Int.toNat_natCast] at h1 h2
  subst h1
  rw [h2]
  exact ⟨a1.trans a2, h4⟩
theorem pars_at : ∀ (n : Nat) (l : List UInt8) (p : Nat) (e : Int) (acc : List Int), (parsR n l p e acc).2.2 = 0 → p ≤ l.length → ∃ M, (parsR n l p e acc).1 = acc ++ M ∧ M.length = n ∧ e = 0 ∧ At l p (parsB M) (parsR n l p e acc).2.1 ∧ ∀ x ∈ M, 0 ≤ x ∧ x < 18446744073709551616
  | 0, l, p, e, acc, h0, hp => by
    unfold parsR at h0 ⊢
    exact ⟨[], by simp, rfl, h0, At.nil hp, fun x hx => by simp at hx⟩
  | n + 1, l, p, e, acc, h0, hp => by
    unfold parsR at h0 ⊢
    by_cases he : e ≠ 0
    · rw [if_pos he] at h0; exact absurd h0 he
    · rw [if_neg he] at h0 ⊢
      obtain ⟨⟨v, q, f⟩, hw⟩ : ∃ y, y = wordR l p e := ⟨_, rfl⟩
      rw [← hw] at h0 ⊢
      simp only at h0 ⊢
      have hq : q ≤ l.length := by
        by_cases hf : f = 0
        · subst hf
          exact (word_at hw.symm).2.elim fun X h => h.2.2.le
        · unfold wordR at hw
          rw [if_neg he] at hw
          split at hw
          · cases hw; exact hp
          · cases hw; exact absurd rfl hf
      obtain ⟨M, h1, h2, h3, a2, h4⟩ := pars_at n l q f _ h0 hq
      subst h3
      obtain ⟨he', X, rfl, hX, a1⟩ := word_at hw.symm
      refine ⟨(X : Int) :: M, by rw [h1]; simp, by simp [h2], he', ?_, fun y hy => ?_⟩
      · have := a1.trans a2
        simpa [parsB] using this
      · rcases List.mem_cons.1 hy with rfl | hy
        · omega
        · exact h4 y hy
end Go.Proofs.YtojpbemfbjkjjaaGreat
