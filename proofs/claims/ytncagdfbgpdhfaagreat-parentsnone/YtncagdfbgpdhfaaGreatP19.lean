import Derived.Test.YtncagdfbgpdhfaaGreatP11
import Derived.Test.YtncagdfbgpdhfaaGreatP18
import Derived.Test.YtncagdfbgpdhfaaGreatP16
/- Plain: what was written is read as the same; of a shorter beginning the read is refused with 110. Nothing of the program is named here. -/
namespace Go.Proofs.YtncagdfbgpdhfaaGreat
open Go.RowKit

theorem shortF_canon : ∀ (f x : Nat), x < 128 ^ (f + 1) → Canon (shortF f x) ∧ val (shortF f x) = x := by
  intro f
  induction f with
  | zero =>
    intro x hx
    have hx' : x < 128 := by simpa using hx
    have e : (UInt8.ofNat x).toNat = x := by rw [UInt8.toNat_ofNat']; omega
    simp only [shortF, Canon, val, e]
    omega
  | succ f ih =>
    intro x hx
    by_cases h : x < 128
    · have e : (UInt8.ofNat x).toNat = x := by rw [UInt8.toNat_ofNat']; omega
      rw [shortF_low _ _ h]
      simp only [Canon, val, e]
      omega
    · rw [shortF_high f x h]
      obtain ⟨h1, h2⟩ := ih (x / 128) (by rw [Nat.pow_succ] at hx; exact Nat.div_lt_of_lt_mul (by rw [Nat.mul_comm]; exact hx))
      have e : (UInt8.ofNat (x % 128 + 128)).toNat = x % 128 + 128 := by rw [UInt8.toNat_ofNat']; omega
      constructor
      · cases hs : shortF f (x / 128) with
        | nil => rw [hs] at h1; exact absurd h1 (by simp [Canon])
        | cons d t => rw [hs] at h1 h2; exact ⟨by rw [e]; omega, h1, by rw [h2]; omega⟩
      · simp only [val, e, h2]; omega
theorem short_canon (x : Nat) (hx : x < 18446744073709551616) : Canon (short x) ∧ val (short x) = x :=
  shortF_canon 9 x (by have : (18446744073709551616 : Nat) ≤ 128 ^ (9 + 1) := by decide
                       omega)

theorem drop_cons {l : List UInt8} {i : Nat} {c : UInt8} {t : List UInt8} (h : l.drop i = c :: t) : bt l i = (c.toNat : Int) ∧ l.drop (i + 1) = t := by
  have hi : i < l.length := by
    by_cases hi : i < l.length
    · exact hi
    · rw [List.drop_eq_nil_of_le (by omega)] at h; cases h
  obtain ⟨c', h1, h2⟩ := drop_bt l i hi
  rw [h1] at h
  simp only [List.cons.injEq] at h
  rw [h.1] at h2
  exact ⟨h2, h.2⟩

theorem canon_num : ∀ (p : List UInt8), Canon p → ∀ (i f : Nat) (l rest : List UInt8), l.drop i = p ++ rest → p.length ≤ f → i ≤ 9 → (0 < i → 0 < val p) → val p * 128 ^ i < 18446744073709551616 →
    numFrom l f i = (accTo l i + 128 ^ i * (val p : Int), i + p.length, 0) := by
  intro p
  induction p with
  | nil => intro h; exact absurd h (by simp [Canon])
  | cons c t ih =>
    intro hp i f l rest hd hf hi hv hlim
    obtain ⟨f', rfl⟩ : ∃ f', f = f' + 1 := ⟨f - 1, by simp at hf; omega⟩
    obtain ⟨hbt, hd'⟩ := drop_cons hd
    have hcl := c.toNat_lt
    cases t with
    | nil =>
      simp only [Canon] at hp
      have hval : val [c] = c.toNat := by simp only [val]; omega
      rw [hval] at hlim hv
      have hb : brokenB i (bt l i) = false := by
        rw [hbt]
        simp only [brokenB]
        have h9 : i = 9 → c.toNat ≤ 1 := by
          intro h9; subst h9
          have : (128 : Nat) ^ 9 = 9223372036854775808 := by decide
          rw [this] at hlim
          omega
        have h0 : 0 < i → ¬ c.toNat = 0 := fun h => by have := hv h; omega
        by_cases h1 : i = 9
        · have := h9 h1
          have := h0 (by omega)
          simp [h1]
          omega
        · by_cases h2 : 0 < i
          · have := h0 h2
            simp [h1]
            omega
          · simp [h1]
            omega
      rw [numFrom, if_neg (by simp [hb]), if_pos (by rw [hbt]; omega), accTo_succ, hbt, hval]
      simp only [List.length_singleton, Prod.mk.injEq, and_true]
      have : (c.toNat : Int) % 128 = (c.toNat : Int) := by omega
      rw [this, Int.mul_comm]
    | cons d t =>
      obtain ⟨h1, h2, h3⟩ := hp
      have hval : val (c :: d :: t) = c.toNat % 128 + 128 * val (d :: t) := rfl
      have hi8 : i ≤ 8 := by
        by_cases h9 : i = 9
        · subst h9
          have h128 : (128 : Nat) ^ 9 = 9223372036854775808 := by decide
          rw [h128, hval] at hlim
          omega
        · omega
      have hb : brokenB i (bt l i) = false := by
        rw [hbt]
        simp only [brokenB]
        have : ¬ i = 9 := by omega
        simp [this]
        omega
      have hlim' : val (d :: t) * 128 ^ (i + 1) < 18446744073709551616 := by
        have hle : val (d :: t) * 128 ^ (i + 1) ≤ val (c :: d :: t) * 128 ^ i := by
          rw [Nat.pow_succ, Nat.mul_comm (128 ^ i) 128, ← Nat.mul_assoc]
          exact Nat.mul_le_mul_right _ (by rw [hval]; omega)
        omega
      rw [numFrom, if_neg (by simp [hb]), if_neg (by rw [hbt]; omega), ih h2 (i + 1) f' l rest hd' (by simp at hf ⊢; omega) (by omega) (fun _ => h3) hlim', accTo_succ, hbt, hval, Int.pow_succ]
      simp only [List.length_cons, Prod.mk.injEq, and_true]
      refine ⟨?_, by omega⟩
      have e1 : ((c.toNat % 128 + 128 * val (d :: t) : Nat) : Int) = (c.toNat : Int) % 128 + 128 * (val (d :: t) : Int) := by omega
      rw [e1, Int.mul_add, Int.mul_comm ((c.toNat : Int) % 128), Int.mul_assoc]
      omega

theorem num_short_app (x : Nat) (hx : x < 18446744073709551616) (rest : List UInt8) : num (short x ++ rest) = ((x : Int), (short x).length, 0) := by
  obtain ⟨h1, h2⟩ := short_canon x hx
  unfold num
  rw [canon_num (short x) h1 0 _ (short x ++ rest) rest rfl (by simp) (by omega) (fun h => by omega) (by rw [h2]; omega), h2]
  simp [accTo]

theorem canon_prefix : ∀ (p : List UInt8), Canon p → ∀ (j i : Nat) (l : List UInt8), j < p.length → l.drop i = p.take j → i + p.length ≤ 10 → numFrom l j i = (0, 0, 110) := by
  intro p
  induction p with
  | nil => intro h; exact absurd h (by simp [Canon])
  | cons c t ih =>
    intro hp j i l hj hd hi
    cases j with
    | zero => rfl
    | succ j =>
      cases t with
      | nil => simp at hj
      | cons d t =>
        obtain ⟨h1, h2, _⟩ := hp
        rw [List.take_succ_cons] at hd
        obtain ⟨hbt, hd'⟩ := drop_cons hd
        simp only [List.length_cons] at hi hj
        have hb : brokenB i (bt l i) = false := by
          rw [hbt]
          simp only [brokenB]
          have : ¬ i = 9 := by omega
          simp [this]
          omega
        rw [numFrom, if_neg (by simp [hb]), if_neg (by rw [hbt]; omega)]
        exact ih h2 j (i + 1) l (by simp only [List.length_cons]; omega) hd' (by simp only [List.length_cons]; omega)

theorem num_short_cut (x j : Nat) (hx : x < 18446744073709551616) (hj : j < (short x).length) : num ((short x).take j) = (0, 0, 110) := by
  obtain ⟨h1, _⟩ := short_canon x hx
  have hl := short_len x
  unfold num
  rw [List.length_take, Nat.min_eq_left (by omega)]
  exact canon_prefix (short x) h1 j 0 _ hj rfl (by omega)

theorem wideVal_wide (x : Nat) (rest : List UInt8) : ∀ k, k ≤ 8 → x < 256 ^ 8 → wideVal (wide x ++ rest) k = ((x / 256 ^ (8 - k) : Nat) : Int) := by
  intro k
  induction k with
  | zero => intro _ hx; rw [Nat.sub_zero, Nat.div_eq_of_lt hx]; rfl
  | succ k ih =>
    intro hk hx
    have hb : bt (wide x ++ rest) k = ((x / 256 ^ (7 - k) % 256 : Nat) : Int) := by
      have h1 : bt (wide x ++ rest) k = bt (wide x) k := by
        unfold bt
        rw [List.getD_eq_getElem?_getD, List.getD_eq_getElem?_getD, List.getElem?_append_left (by unfold wide; rw [wideTo_len]; omega)]
      rw [h1]
      exact wideTo_bt x k 8 (by omega)
    rw [wideVal_succ, ih (by omega) hx, hb, show 8 - k = (7 - k) + 1 from by omega, show 8 - (k + 1) = 7 - k from by omega, Nat.pow_succ, ← Nat.div_div_eq_div_mul]
    omega

theorem outU_ok (x : Nat) (hx : x < 18446744073709551616) (m : Int) (rest : List UInt8) : outOf 1 m (short x ++ rest) 0 = ⟨rest, 0, (x : Int), []⟩ := by
  rw [outOf, if_neg (by simp), if_neg (by decide), if_pos rfl, outU, num_short_app x hx rest, if_neg (by simp)]
  simp
theorem outU_cut (x j : Nat) (hx : x < 18446744073709551616) (m : Int) (hj : j < (short x).length) : (outOf 1 m ((short x).take j) 0).err = 110 := by
  rw [outOf, if_neg (by simp), if_neg (by decide), if_pos rfl, outU, num_short_cut x j hx hj, if_pos (by simp)]
  rfl
theorem outW_ok (x : Nat) (hx : x < 18446744073709551616) (m : Int) (rest : List UInt8) : outOf 2 m (wide x ++ rest) 0 = ⟨rest, 0, (x : Int), []⟩ := by
  have hl : (wide x).length = 8 := wideTo_len x 8
  have hv := wideVal_wide x rest 8 (by omega) hx
  rw [outOf, if_neg (by simp), if_neg (by decide), if_neg (by decide), if_pos rfl, outW, if_neg (by rw [List.length_append, hl]; omega), hv, List.drop_append]
  simp [hl]
theorem outW_cut (l : List UInt8) (m : Int) (hj : l.length < 8) : (outOf 2 m l 0).err = 110 := by
  rw [outOf, if_neg (by simp), if_neg (by decide), if_neg (by decide), if_pos rfl, outW, if_pos hj]
  rfl
theorem outT_ok (s rest : List UInt8) (hx : s.length < 18446744073709551616) : outOf 3 (s.length : Int) (short s.length ++ (s ++ rest)) 0 = ⟨rest, 0, 0, s⟩ := by
  have hn := num_short_app s.length hx (s ++ rest)
  have ht := txt_ok (short s.length ++ (s ++ rest)) (s.length : Int) (by omega) (by rw [hn]) (by rw [hn]; simp) (by rw [hn]; simp; omega)
  rw [hn] at ht
  simp only [Int.toNat_natCast] at ht
  rw [outOf, if_neg (by simp), if_neg (by decide), if_neg (by decide), if_neg (by decide), if_pos rfl, outT, ht, if_neg (by simp)]
  simp only [Out.mk.injEq, true_and]
  constructor
  · rw [← List.append_assoc, List.drop_append]
    simp
  · rw [← List.append_assoc, List.take_append_of_le_length (by simp), List.take_of_length_le (by simp), List.drop_append]
    simp
theorem outT_cut (s : List UInt8) (j : Nat) (hx : s.length < 18446744073709551616) (hj : j < (short s.length ++ s).length) : (outOf 3 (s.length : Int) ((short s.length ++ s).take j) 0).err = 110 := by
  rw [outOf, if_neg (by simp), if_neg (by decide), if_neg (by decide), if_neg (by decide), if_pos rfl, outT]
  by_cases h1 : j < (short s.length).length
  · have e : (short s.length ++ s).take j = (short s.length).take j := List.take_append_of_le_length (by omega)
    have hn := num_short_cut s.length j hx h1
    have ht := txt_num ((short s.length).take j) (s.length : Int) (by omega) (by rw [hn]; simp)
    rw [e, ht, hn, if_pos (by simp)]
    rfl
  · have e : (short s.length ++ s).take j = short s.length ++ s.take (j - (short s.length).length) := by rw [List.take_append, List.take_of_length_le (by omega)]
    have hn := num_short_app s.length hx (s.take (j - (short s.length).length))
    rw [List.length_append] at hj
    have ht := txt_short (short s.length ++ s.take (j - (short s.length).length)) (s.length : Int) (by omega) (by rw [hn]) (by rw [hn]; simp) (by rw [hn]; simp; omega)
    rw [e, ht, if_pos (by simp)]
    rfl

end Go.Proofs.YtncagdfbgpdhfaaGreat

/- Plain: what records the bytes of a file are; that records come back, and that a beginning of one is told as such. Nothing of the program is named here. -/
namespace Go.Proofs.YtncagdfbgpdhfaaGreat
open Go.RowKit

/-- what bytes begin with: a beginning of a record, or what is wrong, or a record, and how many bytes it has -/
inductive P1 where
  | short
  | wrong
  | one (l : List UInt8) (k : Nat)

def pay1 (l : List UInt8) : List UInt8 := (l.take (txt l 262144).2.1).drop (txt l 262144).1
def rec1 (l : List UInt8) : P1 :=
  if (txt l 262144).2.2 = 110 then .short
  else if (txt l 262144).2.2 ≠ 0 then .wrong
  else if l.length - (txt l 262144).2.1 < 8 then .short
  else if wideVal ((l.drop (txt l 262144).2.1).take 8) 8 ≠ (hashN (pay1 l) : Int) then .wrong
  else .one (pay1 l) ((txt l 262144).2.1 + 8)

/-- the records of bytes, how many bytes they have, and whether what is left is wrong -/
def parse : Nat → List UInt8 → List (List UInt8) × Nat × Bool
  | 0, _ => ([], 0, false)
  | f + 1, l => if l = [] then ([], 0, false) else
    match rec1 l with
    | .short => ([], 0, false)
    | .wrong => ([], 0, true)
    | .one p k => (p :: (parse f (l.drop k)).1, k + (parse f (l.drop k)).2.1, (parse f (l.drop k)).2.2)

theorem num_lower (l : List UInt8) (h : (num l).2.2 = 0) : 1 ≤ (num l).2.1 := num_pos l h

theorem rec1_one {l p : List UInt8} {k : Nat} (h : rec1 l = .one p k) : p = pay1 l ∧ k = (txt l 262144).2.1 + 8 ∧ k ≤ l.length ∧ 9 + p.length ≤ k ∧ (txt l 262144).2.2 = 0 ∧ p.length ≤ 262144 := by
  unfold rec1 at h
  split at h
  · cases h
  · split at h
    · cases h
    · split at h
      · cases h
      · split at h
        · cases h
        · rename_i h1 h2 h3 h4
          cases h
          have h2' : (txt l 262144).2.2 = 0 := by simpa using h2
          obtain ⟨b1, b2⟩ := txt_bounds l 262144
          have hn : (num l).2.2 = 0 := by
            by_cases hn : (num l).2.2 = 0
            · exact hn
            · rw [txt_num l 262144 (by decide) hn] at h2'; exact absurd h2' hn
          have hl : ¬ (262144 : Int) < (num l).1 := fun hl => by rw [txt_long l 262144 (by decide) hn hl] at h2'; cases h2'
          have hs : ¬ ((l.length - (num l).2.1 : Nat) : Int) < (num l).1 := fun hs => by rw [txt_short l 262144 (by decide) hn hl hs] at h2'; cases h2'
          have ht := txt_ok l 262144 (by decide) hn hl hs
          have hp := num_pos l hn
          have hlen : (pay1 l).length = (txt l 262144).2.1 - (txt l 262144).1 := by
            unfold pay1; rw [List.length_drop, List.length_take]; omega
          have hge : 1 ≤ (txt l 262144).1 := by rw [ht]; exact hp
          have hf := (num_fits l).1
          have hd : (txt l 262144).2.1 = (txt l 262144).1 + (num l).1.toNat := by rw [ht]
          refine ⟨rfl, rfl, by omega, by omega, h2', by omega⟩

theorem parse_more : ∀ (f g : Nat) (l : List UInt8), l.length + 1 ≤ f → l.length + 1 ≤ g → parse f l = parse g l := by
  intro f
  induction f with
  | zero => intro g l h; omega
  | succ f ih =>
    intro g l hf hg
    obtain ⟨g, rfl⟩ : ∃ i, g = i + 1 := ⟨g - 1, by omega⟩
    rw [parse]
    conv => rhs; rw [parse]
    split
    · rfl
    · cases h : rec1 l with
      | short => rfl
      | wrong => rfl
      | one p k =>
        have h1 := rec1_one h
        have h2 := ih g (l.drop k) (by rw [List.length_drop]; omega) (by rw [List.length_drop]; omega)
        simp only [h2]

/-- the records of bytes -/
def parseL (l : List UInt8) : List (List UInt8) × Nat × Bool := parse (l.length + 1) l
theorem parseL_nil : parseL [] = ([], 0, false) := by simp [parseL, parse]
theorem parseL_short {l : List UInt8} (h : rec1 l = .short) : parseL l = ([], 0, false) := by
  unfold parseL; rw [parse, h]; split <;> rfl
theorem parseL_wrong {l : List UInt8} (h0 : l ≠ []) (h : rec1 l = .wrong) : parseL l = ([], 0, true) := by
  unfold parseL; rw [parse, h, if_neg h0]
theorem parseL_one {l p : List UInt8} {k : Nat} (h0 : l ≠ []) (h : rec1 l = .one p k) : parseL l = (p :: (parseL (l.drop k)).1, k + (parseL (l.drop k)).2.1, (parseL (l.drop k)).2.2) := by
  have h1 := rec1_one h
  unfold parseL
  rw [parse, h, if_neg h0]
  simp only
  rw [parse_more l.length ((l.drop k).length + 1) (l.drop k) (by rw [List.length_drop]; omega) (Nat.le_refl _)]

theorem parse_bounds : ∀ (f : Nat) (l : List UInt8), (parse f l).1.length * 9 + (parse f l).1.flatten.length ≤ (parse f l).2.1 ∧ (parse f l).2.1 ≤ l.length := by
  intro f
  induction f with
  | zero => intro l; simp [parse]
  | succ f ih =>
    intro l
    rw [parse]
    split
    · simp
    · cases h : rec1 l with
      | short => simp
      | wrong => simp
      | one p k =>
        have h1 := rec1_one h
        have h2 := ih (l.drop k)
        rw [List.length_drop] at h2
        simp only [List.length_cons, List.flatten_cons, List.length_append]
        omega
theorem parseL_bounds (l : List UInt8) : (parseL l).1.length * 9 + (parseL l).1.flatten.length ≤ (parseL l).2.1 ∧ (parseL l).2.1 ≤ l.length := parse_bounds _ _

/-! ### records come back -/
theorem txt_rec (l rest : List UInt8) (hl : l.length ≤ 262144) : txt (recB l ++ rest) 262144 = ((short l.length).length, (short l.length).length + l.length, 0) := by
  have hn : num (recB l ++ rest) = ((l.length : Int), (short l.length).length, 0) := by
    unfold recB; rw [List.append_assoc]; exact num_short_app l.length (by omega) _
  have hlen : (recB l ++ rest).length = (short l.length).length + l.length + 8 + rest.length := by rw [List.length_append, recB_len]
  rw [txt_ok _ 262144 (by decide) (by rw [hn]) (by rw [hn]; simp only; omega) (by rw [hn, hlen]; simp only; omega), hn]
  simp
theorem pay_rec (l rest : List UInt8) (hl : l.length ≤ 262144) : pay1 (recB l ++ rest) = l := by
  unfold pay1
  rw [txt_rec l rest hl]
  unfold recB
  have e : short l.length ++ (l ++ wide (hashN l)) ++ rest = (short l.length ++ l) ++ (wide (hashN l) ++ rest) := by simp
  rw [e, List.take_left' (by simp), List.drop_left' rfl]
theorem rec1_rec (l rest : List UInt8) (hl : l.length ≤ 262144) : rec1 (recB l ++ rest) = .one l (recB l).length := by
  have ht := txt_rec l rest hl
  have hp := pay_rec l rest hl
  have hw : wideVal (((recB l ++ rest).drop ((short l.length).length + l.length)).take 8) 8 = (hashN l : Int) := by
    have e : recB l ++ rest = (short l.length ++ l) ++ (wide (hashN l) ++ rest) := by unfold recB; simp
    rw [e, List.drop_left' (by simp), List.take_left' (wide_len _)]
    have := wideVal_wide (hashN l) [] 8 (by omega) (by have := hashN_lt l; omega)
    rw [List.append_nil] at this
    rw [this]; simp
  have hlen : (recB l ++ rest).length = (short l.length).length + l.length + 8 + rest.length := by rw [List.length_append, recB_len]
  unfold rec1
  rw [hp, ht]
  simp only
  rw [if_neg (by decide), if_neg (by simp), if_neg (by rw [hlen]; omega), if_neg (by rw [hw]; simp), recB_len]

theorem rec1_cut (l : List UInt8) (j : Nat) (hl : l.length ≤ 262144) (hj : j < (recB l).length) : rec1 ((recB l).take j) = .short := by
  have hrl := recB_len l
  by_cases h1 : j < (short l.length).length
  · have e : (recB l).take j = (short l.length).take j := by unfold recB; rw [List.take_append_of_le_length (by omega)]
    have hn : num ((recB l).take j) = (0, 0, 110) := by rw [e]; exact num_short_cut l.length j (by omega) h1
    unfold rec1
    rw [txt_num _ 262144 (by decide) (by rw [hn]; decide), hn]
    simp
  · have e : (recB l).take j = short l.length ++ ((l ++ wide (hashN l)).take (j - (short l.length).length)) := by
      unfold recB; rw [List.take_append, List.take_of_length_le (by omega)]
    have hn : num ((recB l).take j) = ((l.length : Int), (short l.length).length, 0) := by rw [e]; exact num_short_app l.length (by omega) _
    have hlen : ((recB l).take j).length = j := by rw [List.length_take]; omega
    by_cases h2 : j < (short l.length).length + l.length
    · unfold rec1
      rw [txt_short _ 262144 (by decide) (by rw [hn]) (by rw [hn]; simp only; omega) (by rw [hn, hlen]; simp only; omega)]
      simp
    · unfold rec1
      rw [txt_ok _ 262144 (by decide) (by rw [hn]) (by rw [hn]; simp only; omega) (by rw [hn, hlen]; simp only; omega), hn]
      simp only
      rw [if_neg (by decide), if_neg (by simp), if_pos (by rw [hlen]; omega)]

theorem recB_ne (l : List UInt8) : recB l ≠ [] := fun e => by have := (recB_pos l).1; rw [e] at this; simp at this

/-- the bytes of a row of records -/
def fileB (rs : List (List UInt8)) : List UInt8 := (rs.map recB).flatten
theorem fileB_snoc (rs : List (List UInt8)) (l : List UInt8) : fileB (rs ++ [l]) = fileB rs ++ recB l := by simp [fileB]
theorem fileB_nil : fileB [] = [] := rfl

theorem parseL_file : ∀ (rs : List (List UInt8)) (tail : List UInt8), (∀ r ∈ rs, r.length ≤ 262144) → parseL tail = ([], 0, false) → parseL (fileB rs ++ tail) = (rs, (fileB rs).length, false) := by
  intro rs
  induction rs with
  | nil => intro tail _ h; simpa [fileB] using h
  | cons r rs ih =>
    intro tail hr ht
    have e : fileB (r :: rs) ++ tail = recB r ++ (fileB rs ++ tail) := by simp [fileB]
    have hlr := hr r (by simp)
    have h1 := rec1_rec r (fileB rs ++ tail) hlr
    rw [e, parseL_one (by simp [recB_ne]) h1, List.drop_left' rfl, ih tail (fun r h => hr r (by simp [h])) ht]
    simp [fileB]
theorem parseL_whole (rs : List (List UInt8)) (hr : ∀ r ∈ rs, r.length ≤ 262144) : parseL (fileB rs) = (rs, (fileB rs).length, false) := by
  have := parseL_file rs [] hr parseL_nil
  rwa [List.append_nil] at this
theorem parseL_torn (rs : List (List UInt8)) (l : List UInt8) (j : Nat) (hr : ∀ r ∈ rs, r.length ≤ 262144) (hl : l.length ≤ 262144) (hj : j < (recB l).length) : parseL (fileB rs ++ (recB l).take j) = (rs, (fileB rs).length, false) :=
  parseL_file rs _ hr (parseL_short (rec1_cut l j hl hj))

end Go.Proofs.YtncagdfbgpdhfaaGreat
