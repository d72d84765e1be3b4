import Derived.Test.YtncagdfbgpdhfaaGreatP12
import Derived.Test.YtncagdfbgpdhfaaGreatP02
import Derived.Test.YtncagdfbgpdhfaaGreatP10
/- Plain: short and wide forms are read back. -/
namespace Go.Proofs.YtncagdfbgpdhfaaGreat
open Go.RowKit

theorem oshortF_canon : ∀ (f x : Nat), x < 128 ^ (f + 1) → Canon (shortF f x) ∧ val (shortF f x) = x := by
  intro f
  induction f with
  | zero =>
    intro x hx
    have hx' : x < 128 := by simpa using hx
    have e : (UInt8.ofNat x).toNat = x := by rw [UInt8.toNat_ofNat']; omega
    simp only [shortF, Canon, val, e]
    omega
  | succ f ih =>
    intro x hx
    by_cases h : x < 128
    · have e : (UInt8.ofNat x).toNat = x := by rw [UInt8.toNat_ofNat']; omega
      rw [shortF_low _ _ h]
      simp only [Canon, val, e]
      omega
    · rw [shortF_high f x h]
      obtain ⟨h1, h2⟩ := ih (x / 128) (by rw [Nat.pow_succ] at hx; exact Nat.div_lt_of_lt_mul (by rw [Nat.mul_comm]; exact hx))
      have e : (UInt8.ofNat (x % 128 + 128)).toNat = x % 128 + 128 := by rw [UInt8.toNat_ofNat']; omega
      constructor
      · cases hs : shortF f (x / 128) with
        | nil => rw [hs] at h1; exact absurd h1 (by simp [Canon])
        | cons d t => rw [hs] at h1 h2; exact ⟨by rw [e]; omega, h1, by rw [h2]; omega⟩
      · simp only [val, e, h2]; omega
theorem oshort_canon (x : Nat) (hx : x < 18446744073709551616) : Canon (short x) ∧ val (short x) = x :=
  oshortF_canon 9 x (by have : (18446744073709551616 : Nat) ≤ 128 ^ (9 + 1) := by decide
                        omega)

theorem odrop_cons {l : List UInt8} {i : Nat} {c : UInt8} {t : List UInt8} (h : l.drop i = c :: t) : bt l i = (c.toNat : Int) ∧ l.drop (i + 1) = t := by
  have hi : i < l.length := by
    by_cases hi : i < l.length
    · exact hi
    · rw [List.drop_eq_nil_of_le (by omega)] at h; cases h
  obtain ⟨c', h1, h2⟩ := drop_bt l i hi
  rw [h1] at h
  simp only [List.cons.injEq] at h
  rw [h.1] at h2
  exact ⟨h2, h.2⟩

theorem ocanon_num : ∀ (p : List UInt8), Canon p → ∀ (i f : Nat) (l rest : List UInt8), l.drop i = p ++ rest → p.length ≤ f → i ≤ 9 → (0 < i → 0 < val p) → val p * 128 ^ i < 18446744073709551616 →
    numFrom l f i = (accTo l i + 128 ^ i * (val p : Int), i + p.length, 0) := by
  intro p
  induction p with
  | nil => intro h; exact absurd h (by simp [Canon])
  | cons c t ih =>
    intro hp i f l rest hd hf hi hv hlim
    obtain ⟨f', rfl⟩ : ∃ f', f = f' + 1 := ⟨f - 1, by simp at hf; omega⟩
    obtain ⟨hbt, hd'⟩ := odrop_cons hd
    have hcl := c.toNat_lt
    cases t with
    | nil =>
      simp only [Canon] at hp
      have hval : val [c] = c.toNat := by simp only [val]; omega
      rw [hval] at hlim hv
      have hb : brokenB i (bt l i) = false := by
        rw [hbt]
        simp only [brokenB]
        have h9 : i = 9 → c.toNat ≤ 1 := by
          intro h9; subst h9
          have : (128 : Nat) ^ 9 = 9223372036854775808 := by decide
          rw [this] at hlim
          omega
        have h0 : 0 < i → ¬ c.toNat = 0 := fun h => by have := hv h; omega
        by_cases h1 : i = 9
        · have := h9 h1
          have := h0 (by omega)
          simp [h1]
          omega
        · by_cases h2 : 0 < i
          · have := h0 h2
            simp [h1]
            omega
          · simp [h1]
            omega
      rw [numFrom, if_neg (by simp [hb]), if_pos (by rw [hbt]; omega), accTo_succ, hbt, hval]
      simp only [List.length_singleton, Prod.mk.injEq, and_true]
      have : (c.toNat : Int) % 128 = (c.toNat : Int) := by omega
      rw [this, Int.mul_comm]
    | cons d t =>
      obtain ⟨h1, h2, h3⟩ := hp
      have hval : val (c :: d :: t) = c.toNat % 128 + 128 * val (d :: t) := rfl
      have hi8 : i ≤ 8 := by
        by_cases h9 : i = 9
        · subst h9
          have h128 : (128 : Nat) ^ 9 = 9223372036854775808 := by decide
          rw [h128, hval] at hlim
          omega
        · omega
      have hb : brokenB i (bt l i) = false := by
        rw [hbt]
        simp only [brokenB]
        have : ¬ i = 9 := by omega
        simp [this]
        omega
      have hlim' : val (d :: t) * 128 ^ (i + 1) < 18446744073709551616 := by
        have hle : val (d :: t) * 128 ^ (i + 1) ≤ val (c :: d :: t) * 128 ^ i := by
          rw [Nat.pow_succ, Nat.mul_comm (128 ^ i) 128, ← Nat.mul_assoc]
          exact Nat.mul_le_mul_right _ (by rw [hval]; omega)
        omega
      rw [numFrom, if_neg (by simp [hb]), if_neg (by rw [hbt]; omega), ih h2 (i + 1) f' l rest hd' (by simp at hf ⊢; omega) (by omega) (fun _ => h3) hlim', accTo_succ, hbt, hval, Int.pow_succ]
      simp only [List.length_cons, Prod.mk.injEq, and_true]
      refine ⟨?_, by omega⟩
      have e1 : ((c.toNat % 128 + 128 * val (d :: t) : Nat) : Int) = (c.toNat : Int) % 128 + 128 * (val (d :: t) : Int) := by omega
      rw [e1, Int.mul_add, Int.mul_comm ((c.toNat : Int) % 128), Int.mul_assoc]
      omega

theorem onum_short_app (x : Nat) (hx : x < 18446744073709551616) (rest : List UInt8) : num (short x ++ rest) = ((x : Int), (short x).length, 0) := by
  obtain ⟨h1, h2⟩ := oshort_canon x hx
  unfold num
  rw [ocanon_num (short x) h1 0 _ (short x ++ rest) rest rfl (by simp) (by omega) (fun h => by omega) (by rw [h2]; omega), h2]
  simp [accTo]

theorem owideVal_wide (x : Nat) (rest : List UInt8) : ∀ k, k ≤ 8 → x < 256 ^ 8 → wideVal (wide x ++ rest) k = ((x / 256 ^ (8 - k) : Nat) : Int) := by
  intro k
  induction k with
  | zero => intro _ hx; rw [Nat.sub_zero, Nat.div_eq_of_lt hx]; rfl
  | succ k ih =>
    intro hk hx
    have hb : bt (wide x ++ rest) k = ((x / 256 ^ (7 - k) % 256 : Nat) : Int) := by
      have h1 : bt (wide x ++ rest) k = bt (wide x) k := by
        unfold bt
        rw [List.getD_eq_getElem?_getD, List.getD_eq_getElem?_getD, List.getElem?_append_left (by unfold wide; rw [wideTo_len]; omega)]
      rw [h1]
      exact wideTo_bt x k 8 (by omega)
    rw [wideVal_succ, ih (by omega) hx, hb, show 8 - k = (7 - k) + 1 from by omega, show 8 - (k + 1) = 7 - k from by omega, Nat.pow_succ, ← Nat.div_div_eq_div_mul]
    omega
theorem txt_zero (l : List UInt8) (m : Int) (h : (txt l m).2.2 = 0) : ¬ m < 0 ∧ (num l).2.2 = 0 ∧ ¬ m < (num l).1 ∧ ¬ ((l.length - (num l).2.1 : Nat) : Int) < (num l).1 ∧ txt l m = ((num l).2.1, (num l).2.1 + (num l).1.toNat, 0) := by
  by_cases h0 : m < 0
  · rw [txt_arg l m h0] at h; simp at h
  · by_cases h1 : (num l).2.2 ≠ 0
    · rw [txt_num l m h0 h1] at h; simp at h; exact absurd h h1
    · have h1' : (num l).2.2 = 0 := by simpa using h1
      by_cases h2 : m < (num l).1
      · rw [txt_long l m h0 h1' h2] at h; simp at h
      · by_cases h3 : ((l.length - (num l).2.1 : Nat) : Int) < (num l).1
        · rw [txt_short l m h0 h1' h2 h3] at h; simp at h
        · exact ⟨h0, h1', h2, h3, txt_ok l m h0 h1' h2 h3⟩
end Go.Proofs.YtncagdfbgpdhfaaGreat

/- Plain facts: the bytes of a commit tell the commit. -/
namespace Go.Proofs.YtncagdfbgpdhfaaGreat
open Go.RowKit

end Go.Proofs.YtncagdfbgpdhfaaGreat

/- Plain: what is read is what was written, and the other way round. -/
namespace Go.Proofs.YtncagdfbgpdhfaaGreat
open Go.RowKit

theorem wideVal_inj (t u : List UInt8) : ∀ k, wideVal t k = wideVal u k → ∀ i, i < k → bt t i = bt u i := by
  intro k
  induction k with
  | zero => intro _ i hi; omega
  | succ k ih =>
    intro h i hi
    rw [wideVal_succ, wideVal_succ] at h
    have a0 := bt_lo t k
    have a1 := bt_hi t k
    have b0 := bt_lo u k
    have b1 := bt_hi u k
    by_cases e : i = k
    · subst e; omega
    · exact ih (by omega) i (by omega)
theorem bt_ext {t u : List UInt8} (hl : t.length = u.length) (h : ∀ i, i < t.length → bt t i = bt u i) : t = u := by
  refine List.ext_getElem hl fun i h1 h2 => ?_
  have := h i h1
  simp only [bt, List.getD, List.getElem?_eq_getElem h1, List.getElem?_eq_getElem h2, Option.getD_some] at this
  exact UInt8.toNat_inj.1 (by omega)
theorem wide_back (t : List UInt8) (ht : t.length = 8) (X : Nat) (hX : X < 18446744073709551616) (h : wideVal t 8 = (X : Int)) : t = wide X := by
  have hw := owideVal_wide X [] 8 (by omega) (by omega)
  rw [List.append_nil] at hw
  have e : wideVal t 8 = wideVal (wide X) 8 := by rw [h, hw]; simp
  exact bt_ext (by rw [ht, owide_len]) (fun i hi => wideVal_inj t (wide X) 8 e i (by omega))
/-- from p to q lie the bytes A -/
structure At (l : List UInt8) (p : Nat) (A : List UInt8) (q : Nat) : Prop where
  eq : l.drop p = A ++ l.drop q
  len : q = p + A.length
  le : q ≤ l.length
theorem At.trans {l : List UInt8} {p q r : Nat} {A B : List UInt8} (h : At l p A q) (k : At l q B r) : At l p (A ++ B) r :=
  ⟨by rw [h.eq, k.eq, List.append_assoc], by rw [k.len, h.len, List.length_append]; omega, k.le⟩
theorem At.nil {l : List UInt8} {p : Nat} (h : p ≤ l.length) : At l p [] p := ⟨rfl, by simp, h⟩
theorem At.of {l : List UInt8} {p : Nat} {A r : List UInt8} (h : l.drop p = A ++ r) (hp : p ≤ l.length) : At l p A (p + A.length) ∧ l.drop (p + A.length) = r := by
  have e : l.drop (p + A.length) = r := by rw [← List.drop_drop, h]; simp
  refine ⟨⟨by rw [e, h], rfl, ?_⟩, e⟩
  have := congrArg List.length h
  rw [List.length_drop, List.length_append] at this
  omega
/-- forth -/
theorem byte_at {l : List UInt8} {p q : Nat} {e v : Int} (h : byteR l p e = (v, q, 0)) : e = 0 ∧ ∃ c : UInt8, v = (c.toNat : Int) ∧ At l p [c] q := by
  obtain ⟨he, _, hp⟩ := byteR_ok (l := l) (p := p) (e := e) (by rw [h])
  subst he
  unfold byteR at h
  rw [if_neg (by simp), if_pos hp] at h
  simp only [Prod.mk.injEq, and_true] at h
  refine ⟨rfl, l[p], ?_, ?_⟩
  · rw [← h.1]; simp [bt, hp]
  · exact ⟨by rw [List.drop_eq_getElem_cons hp, ← h.2]; rfl, by rw [← h.2]; rfl, by omega⟩
theorem uint_at {l : List UInt8} {p q : Nat} {e v : Int} (h : uintR l p e = (v, q, 0)) (hp : p ≤ l.length) : e = 0 ∧ ∃ X : Nat, v = (X : Int) ∧ X < 18446744073709551616 ∧ At l p (short X) q := by
  unfold uintR at h
  by_cases he : e ≠ 0
  · rw [if_pos he] at h; simp only [Prod.mk.injEq] at h; exact absurd h.2.2 he
  · rw [if_neg he] at h
    by_cases hn : (num (l.drop p)).2.2 = 0
    · rw [if_pos hn] at h
      simp only [Prod.mk.injEq, and_true] at h
      obtain ⟨X, h1, h2, h3, h4, h5, h6⟩ := num_back (l.drop p) (num (l.drop p)).1 (num (l.drop p)).2.1 (by rw [← hn])
      rw [List.length_drop] at h5
      refine ⟨by omega, X, by rw [← h.1]; exact h1, h6, ?_, ?_, by omega⟩
      · rw [h2, ← h.2, ← List.drop_drop, List.take_append_drop]
      · rw [h2, ← h.2, List.length_take, List.length_drop]; omega
    · rw [if_neg hn] at h; simp only [Prod.mk.injEq] at h; exact absurd h.2.2 hn
theorem word_at {l : List UInt8} {p q : Nat} {e v : Int} (h : wordR l p e = (v, q, 0)) : e = 0 ∧ ∃ X : Nat, v = (X : Int) ∧ X < 18446744073709551616 ∧ At l p (wide X) q := by
  obtain ⟨he, _, hp⟩ := wordR_ok (l := l) (p := p) (e := e) (by rw [h])
  subst he
  unfold wordR at h
  rw [if_neg (by simp), if_neg (by omega)] at h
  simp only [Prod.mk.injEq, and_true] at h
  have hlo := wideVal_lo ((l.drop p).take 8) 8
  have hfi := wideVal_fits ((l.drop p).take 8) 8 (by omega)
  obtain ⟨X, hX⟩ := Int.eq_ofNat_of_zero_le hlo
  have ht : ((l.drop p).take 8).length = 8 := by rw [List.length_take, List.length_drop]; omega
  have hb := wide_back _ ht X (by omega) hX
  refine ⟨rfl, X, by rw [← h.1]; exact hX, by omega, ?_, by rw [owide_len]; exact h.2.symm, by omega⟩
  rw [← hb, ← h.2, ← List.drop_drop, List.take_append_drop]
theorem text_at {l : List UInt8} {p q : Nat} {e m : Int} {s : ByteArray} (h : textR l p e m = (s, q, 0)) (hp : p ≤ l.length) : e = 0 ∧ At l p (short s.size ++ s.data.toList) q ∧ (s.size : Int) ≤ m := by
  unfold textR at h
  by_cases he : e ≠ 0
  · rw [if_pos he] at h; simp only [Prod.mk.injEq] at h; exact absurd h.2.2 he
  · rw [if_neg he] at h
    by_cases hn : (txt (l.drop p) m).2.2 = 0
    · rw [if_pos hn] at h
      simp only [Prod.mk.injEq, and_true] at h
      obtain ⟨z1, z2, z3, z4, z5⟩ := txt_zero (l.drop p) m hn
      obtain ⟨X, h1, h2, h3, h4, h5, h6⟩ := num_back (l.drop p) (num (l.drop p)).1 (num (l.drop p)).2.1 (by rw [← z2])
      unfold cutT at h
      rw [z5] at h
      simp only at h
      rw [h1] at h z3 z4
      generalize (num (l.drop p)).2.1 = k at *
      rw [List.length_drop] at h5
      simp only [List.length_drop] at z4
      simp only [Int.toNat_natCast] at h
      have hd : ((l.drop p).take (k + X)).drop k = ((l.drop p).drop k).take X := by rw [List.drop_take]; congr 1; omega
      have hs : s.data.toList = ((l.drop p).drop k).take X := by rw [← h.1, ← hd]
      have hsz : s.size = X := by
        have : s.data.toList.length = s.size := Array.length_toList
        rw [← this, hs, List.length_take, List.length_drop, List.length_drop]; omega
      refine ⟨by omega, ⟨?_, ?_, by omega⟩, by omega⟩
      · rw [hs, hsz, h2, ← h.2, ← List.drop_drop, ← List.drop_drop, List.append_assoc, List.take_append_drop, List.take_append_drop]
      · have l1 : (short s.size).length = k := by rw [hsz, h2, List.length_take, List.length_drop]; omega
        have l2 : s.data.toList.length = s.size := Array.length_toList
        rw [List.length_append, l1, l2, hsz]; omega
    · rw [if_neg hn] at h; simp only [Prod.mk.injEq] at h; exact absurd h.2.2 hn
/-- an entry as it may be read -/
def EntOk (x : Ent) : Prop := x.1.size ≤ 32 ∧ 0 ≤ x.2.2 ∧ x.2.2 < 18446744073709551616
theorem ent_at {l : List UInt8} {p : Nat} {e : Int} {x : Ent} (h : (entR l p e).1 = some x) (hp : p ≤ l.length) : e = 0 ∧ (entR l p e).2.2 = 0 ∧ At l p (entB x) (entR l p e).2.1 ∧ EntOk x := by
  have h2 := (entR_some h).2.2
  unfold entR at h h2 ⊢
  simp only at h h2 ⊢
  obtain ⟨⟨t1, tp, te⟩, ht⟩ : ∃ y, y = textR l p e 32 := ⟨_, rfl⟩
  rw [← ht] at h h2 ⊢
  simp only at h h2 ⊢
  obtain ⟨⟨bv, bp, be⟩, hb⟩ : ∃ y, y = byteR l tp te := ⟨_, rfl⟩
  rw [← hb] at h h2 ⊢
  simp only at h h2 ⊢
  obtain ⟨⟨xv, xp, xe⟩, hx⟩ : ∃ y, y = wordR l bp be := ⟨_, rfl⟩
  rw [← hx] at h h2 ⊢
  simp only at h h2 ⊢
  subst h2
  obtain ⟨rfl, X, rfl, hX, a3⟩ := word_at hx.symm
  obtain ⟨rfl, c, rfl, a2⟩ := byte_at hb.symm
  obtain ⟨rfl, a1, hs⟩ := text_at ht.symm hp
  by_cases hq : (0 : Int) ≠ 0 ∨ 1 < (c.toNat : Int)
  · rw [if_pos hq] at h; cases h
  · rw [if_neg hq] at h
    cases h
    refine ⟨rfl, rfl, ?_, by show t1.size ≤ 32; omega, by show (0 : Int) ≤ (X : Int); omega, by show (X : Int) < _; omega⟩
    have hc : c = if ((c.toNat : Int) == 1) = true then 1 else 0 := by
      have : c.toNat = 0 ∨ c.toNat = 1 := by omega
      rcases this with h0 | h0
      · rw [h0]; exact UInt8.toNat_inj.1 (by rw [h0]; rfl)
      · rw [h0]; exact UInt8.toNat_inj.1 (by rw [h0]; rfl)
    have := (a1.trans a2).trans a3
    unfold entB
    rw [← hc]
    simpa using this
theorem ents_at : ∀ (n : Nat) (l : List UInt8) (p : Nat) (e : Int) (acc R : List Ent), (entsR n l p e acc).1 = some R → (entsR n l p e acc).2.2 = 0 → p ≤ l.length → ∃ M, R = acc ++ M ∧ M.length = n ∧ e = 0 ∧ At l p (entsB M) (entsR n l p e acc).2.1 ∧ ∀ x ∈ M, EntOk x
  | 0, l, p, e, acc, R, h, h0, hp => by
    unfold entsR at h h0 ⊢
    simp only [Option.some.injEq] at h h0 ⊢
    exact ⟨[], by rw [h]; simp, rfl, h0, At.nil hp, fun x hx => by simp at hx⟩
  | n + 1, l, p, e, acc, R, h, h0, hp => by
    unfold entsR at h h0 ⊢
    cases hx : (entR l p e).1 with
    | none => rw [hx] at h; simp at h
    | some x =>
      rw [hx] at h h0
      simp only at h h0 ⊢
      obtain ⟨he, he', a1, ok⟩ := ent_at hx hp
      obtain ⟨M, h1, h2, _, a2, h4⟩ := ents_at n l _ _ _ R h h0 a1.le
      refine ⟨x :: M, by rw [h1]; simp, by simp [h2], he, ?_, fun y hy => ?_⟩
      · have := a1.trans a2
        simpa [entsB] using this
      · rcases List.mem_cons.1 hy with rfl | hy
        · exact ok
        · exact h4 y hy
theorem tree_rd {l : List UInt8} {p : Nat} {R : List Ent} (h : (treeR l p 0).1 = some R) (h0 : (treeR l p 0).2.2 = 0) (hp : p ≤ l.length) : At l p (short R.length ++ entsB R) (treeR l p 0).2.1 ∧ ∀ x ∈ R, EntOk x := by
  unfold treeR at h h0 ⊢
  obtain ⟨⟨u, up, ue⟩, hu⟩ : ∃ y, y = uintR l p 0 := ⟨_, rfl⟩
  rw [← hu] at h h0 ⊢
  simp only at h h0 ⊢
  have hup : up ≤ l.length := by
    by_cases h1 : ue = 0
    · subst h1
      obtain ⟨_, X, _, _, a⟩ := uint_at hu.symm hp
      exact a.le
    · unfold uintR at hu
      rw [if_neg (by simp)] at hu
      split at hu
      · cases hu; exact absurd rfl h1
      · cases hu; exact hp
  obtain ⟨M, h1, h2, h3, a2, h4⟩ := ents_at _ l _ _ _ R h h0 hup
  subst h3
  obtain ⟨_, X, rfl, hX, a1⟩ := uint_at hu.symm hp
  simp only [List.nil_append, Int.toNat_natCast] at h1 h2
  subst h1
  rw [h2]
  exact ⟨a1.trans a2, h4⟩
theorem pars_at : ∀ (n : Nat) (l : List UInt8) (p : Nat) (e : Int) (acc : List Int), (parsR n l p e acc).2.2 = 0 → p ≤ l.length → ∃ M, (parsR n l p e acc).1 = acc ++ M ∧ M.length = n ∧ e = 0 ∧ At l p (parsB M) (parsR n l p e acc).2.1 ∧ ∀ x ∈ M, 0 ≤ x ∧ x < 18446744073709551616
  | 0, l, p, e, acc, h0, hp => by
    unfold parsR at h0 ⊢
    exact ⟨[], by simp, rfl, h0, At.nil hp, fun x hx => by simp at hx⟩
  | n + 1, l, p, e, acc, h0, hp => by
    unfold parsR at h0 ⊢
    by_cases he : e ≠ 0
    · rw [if_pos he] at h0; exact absurd h0 he
    · rw [if_neg he] at h0 ⊢
      obtain ⟨⟨v, q, f⟩, hw⟩ : ∃ y, y = wordR l p e := ⟨_, rfl⟩
      rw [← hw] at h0 ⊢
      simp only at h0 ⊢
      have hq : q ≤ l.length := by
        by_cases hf : f = 0
        · subst hf
          exact (word_at hw.symm).2.elim fun X h => h.2.2.le
        · unfold wordR at hw
          rw [if_neg he] at hw
          split at hw
          · cases hw; exact hp
          · cases hw; exact absurd rfl hf
      obtain ⟨M, h1, h2, h3, a2, h4⟩ := pars_at n l q f _ h0 hq
      subst h3
      obtain ⟨he', X, rfl, hX, a1⟩ := word_at hw.symm
      refine ⟨(X : Int) :: M, by rw [h1]; simp, by simp [h2], he', ?_, fun y hy => ?_⟩
      · have := a1.trans a2
        simpa [parsB] using this
      · rcases List.mem_cons.1 hy with rfl | hy
        · omega
        · exact h4 y hy
end Go.Proofs.YtncagdfbgpdhfaaGreat
