import Derived.Test.YtngfhhdmemldkaaGreatG25
import Derived.Test.YtngfhhdmemldkaaGreatG22
/- Plain: what records the bytes of a file are; that records come back, and that a beginning of one is told as such. Nothing of the program is named here. -/
namespace Go.Proofs.YtngfhhdmemldkaaGreat
open Go.RowKit

/-- what bytes begin with: a beginning of a record, or what is wrong, or a record, and how many bytes it has -/
inductive P1 where
  | short
  | wrong
  | one (l : List UInt8) (k : Nat)

def pay1 (l : List UInt8) : List UInt8 := (l.take (txt l 262144).2.1).drop (txt l 262144).1
def rec1 (l : List UInt8) : P1 :=
  if (txt l 262144).2.2 = 110 then .short
  else if (txt l 262144).2.2 ≠ 0 then .wrong
  else if l.length - (txt l 262144).2.1 < 8 then .short
  else if wideVal ((l.drop (txt l 262144).2.1).take 8) 8 ≠ (hashN (pay1 l) : Int) then .wrong
  else .one (pay1 l) ((txt l 262144).2.1 + 8)

/-- the records of bytes, how many bytes they have, and whether what is left is wrong -/
def parse : Nat → List UInt8 → List (List UInt8) × Nat × Bool
  | 0, _ => ([], 0, false)
  | f + 1, l => if l = [] then ([], 0, false) else
    match rec1 l with
    | .short => ([], 0, false)
    | .wrong => ([], 0, true)
    | .one p k => (p :: (parse f (l.drop k)).1, k + (parse f (l.drop k)).2.1, (parse f (l.drop k)).2.2)

theorem num_lower (l : List UInt8) (h : (num l).2.2 = 0) : 1 ≤ (num l).2.1 := num_pos l h

theorem rec1_one {l p : List UInt8} {k : Nat} (h : rec1 l = .one p k) : p = pay1 l ∧ k = (txt l 262144).2.1 + 8 ∧ k ≤ l.length ∧ 9 + p.length ≤ k ∧ (txt l 262144).2.2 = 0 ∧ p.length ≤ 262144 := by
  unfold rec1 at h
  split at h
  · cases h
  · split at h
    · cases h
    · split at h
      · cases h
      · split at h
        · cases h
        · rename_i h1 h2 h3 h4
          cases h
          have h2' : (txt l 262144).2.2 = 0 := by simpa using h2
          obtain ⟨b1, b2⟩ := txt_bounds l 262144
          have hn : (num l).2.2 = 0 := by
            by_cases hn : (num l).2.2 = 0
            · exact hn
            · rw [txt_num l 262144 (by decide) hn] at h2'; exact absurd h2' hn
          have hl : ¬ (262144 : Int) < (num l).1 := fun hl => by rw [txt_long l 262144 (by decide) hn hl] at h2'; cases h2'
          have hs : ¬ ((l.length - (num l).2.1 : Nat) : Int) < (num l).1 := fun hs => by rw [txt_short l 262144 (by decide) hn hl hs] at h2'; cases h2'
          have ht := txt_ok l 262144 (by decide) hn hl hs
          have hp := num_pos l hn
          have hlen : (pay1 l).length = (txt l 262144).2.1 - (txt l 262144).1 := by
            unfold pay1; rw [List.length_drop, List.length_take]; omega
          have hge : 1 ≤ (txt l 262144).1 := by rw [ht]; exact hp
          have hf := (num_fits l).1
          have hd : (txt l 262144).2.1 = (txt l 262144).1 + (num l).1.toNat := by rw [ht]
          refine ⟨rfl, rfl, by omega, by omega, h2', by omega⟩

theorem parse_more : ∀ (f g : Nat) (l : List UInt8), l.length + 1 ≤ f → l.length + 1 ≤ g → parse f l = parse g l := by
  intro f
  induction f with
  | zero => intro g l h; omega
  | succ f ih =>
    intro g l hf hg
    obtain ⟨g, rfl⟩ : ∃ i, g = i + 1 := ⟨g - 1, by omega⟩
    rw [parse]
    conv => rhs; rw [parse]
    split
    · rfl
    · cases h : rec1 l with
      | short => rfl
      | wrong => rfl
      | one p k =>
        have h1 := rec1_one h
        have h2 := ih g (l.drop k) (by rw [List.length_drop]; omega) (by rw [List.length_drop]; omega)
        simp only [h2]

/-- the records of bytes -/
def parseL (l : List UInt8) : List (List UInt8) × Nat × Bool := parse (l.length + 1) l
theorem parseL_nil : parseL [] = ([], 0, false) := by simp [parseL, parse]
theorem parseL_short {l : List UInt8} (h : rec1 l = .short) : parseL l = ([], 0, false) := by
  unfold parseL; rw [parse, h]; split <;> rfl
theorem parseL_wrong {l : List UInt8} (h0 : l ≠ []) (h : rec1 l = .wrong) : parseL l = ([], 0, true) := by
  unfold parseL; rw [parse, h, if_neg h0]
theorem parseL_one {l p : List UInt8} {k : Nat} (h0 : l ≠ []) (h : rec1 l = .one p k) : parseL l = (p :: (parseL (l.drop k)).1, k + (parseL (l.drop k)).2.1, (parseL (l.drop k)).2.2) := by
  have h1 := rec1_one h
  unfold parseL
  rw [parse, h, if_neg h0]
  simp only
  rw [parse_more l.length ((l.drop k).length + 1) (l.drop k) (by rw [List.length_drop]; omega) (Nat.le_refl _)]

theorem parse_bounds : ∀ (f : Nat) (l : List UInt8), (parse f l).1.length * 9 + (parse f l).1.flatten.length ≤ (parse f l).2.1 ∧ (parse f l).2.1 ≤ l.length := by
  intro f
  induction f with
  | zero => intro l; simp [parse]
  | succ f ih =>
    intro l
    rw [parse]
    split
    · simp
    · cases h : rec1 l with
      | short => simp
      | wrong => simp
      | one p k =>
        have h1 := rec1_one h
        have h2 := ih (l.drop k)
        rw [List.length_drop] at h2
        simp only [List.length_cons, List.flatten_cons, List.length_append]
        omega
theorem parseL_bounds (l : List UInt8) : (parseL l).1.length * 9 + (parseL l).1.flatten.length ≤ (parseL l).2.1 ∧ (parseL l).2.1 ≤ l.length := parse_bounds _ _

/-! ### records come back -/
theorem txt_rec (l rest : List UInt8) (hl : l.length ≤ 262144) : txt (recB l ++ rest) 262144 = ((short l.length).length, (short l.length).length + l.length, 0) := by
  have hn : num (recB l ++ rest) = ((l.length : Int), (short l.length).length, 0) := by
    unfold recB; rw [List.append_assoc]; exact num_short_app l.length (by omega) _
  have hlen : (recB l ++ rest).length = (short l.length).length + l.length + 8 + rest.length := by rw [List.length_append, recB_len]
  rw [txt_ok _ 262144 (by decide) (by rw [hn]) (by rw [hn]; simp only; omega) (by rw [hn, hlen]; simp only; omega), hn]
  simp
theorem pay_rec (l rest : List UInt8) (hl : l.length ≤ 262144) : pay1 (recB l ++ rest) = l := by
  unfold pay1
  rw [txt_rec l rest hl]
  unfold recB
  have e : short l.length ++ (l ++ wide (hashN l)) ++ rest = (short l.length ++ l) ++ (wide (hashN l) ++ rest) := by simp
  rw [e, List.take_left' (by simp), List.drop_left' rfl]
theorem rec1_rec (l rest : List UInt8) (hl : l.length ≤ 262144) : rec1 (recB l ++ rest) = .one l (recB l).length := by
  have ht := txt_rec l rest hl
  have hp := pay_rec l rest hl
  have hw : wideVal (((recB l ++ rest).drop ((short l.length).length + l.length)).take 8) 8 = (hashN l : Int) := by
    have e : recB l ++ rest = (short l.length ++ l) ++ (wide (hashN l) ++ rest) := by unfold recB; simp
    rw [e, List.drop_left' (by simp), List.take_left' (wide_len _)]
    have := wideVal_wide (hashN l) [] 8 (by omega) (by have := hashN_lt l; omega)
    rw [List.append_nil] at this
    rw [this]; simp
  have hlen : (recB l ++ rest).length = (short l.length).length + l.length + 8 + rest.length := by rw [List.length_append, recB_len]
  unfold rec1
  rw [hp, ht]
  simp only
  rw [if_neg (by decide), if_neg (by simp), if_neg (by rw [hlen]; omega), if_neg (by rw [hw]; simp), recB_len]

theorem rec1_cut (l : List UInt8) (j : Nat) (hl : l.length ≤ 262144) (hj : j < (recB l).length) : rec1 ((recB l).take j) = .short := by
  have hrl := recB_len l
  by_cases h1 : j < (short l.length).length
  · have e : (recB l).take j = (short l.length).take j := by unfold recB; rw [List.take_append_of_le_length (by omega)]
    have hn : num ((recB l).take j) = (0, 0, 110) := by rw [e]; exact num_short_cut l.length j (by omega) h1
    unfold rec1
    rw [txt_num _ 262144 (by decide) (by rw [hn]; decide), hn]
    simp
  · have e : (recB l).take j = short l.length ++ ((l ++ wide (hashN l)).take (j - (short l.length).length)) := by
      unfold recB; rw [List.take_append, List.take_of_length_le (by omega)]
    have hn : num ((recB l).take j) = ((l.length : Int), (short l.length).length, 0) := by rw [e]; exact num_short_app l.length (by omega) _
    have hlen : ((recB l).take j).length = j := by rw [List.length_take]; omega
    by_cases h2 : j < (short l.length).length + l.length
    · unfold rec1
      rw [txt_short _ 262144 (by decide) (by rw [hn]) (by rw [hn]; simp only; omega) (by rw [hn, hlen]; simp only; omega)]
      simp
    · unfold rec1
      rw [txt_ok _ 262144 (by decide) (by rw [hn]) (by rw [hn]; simp only; omega) (by rw [hn, hlen]; simp only; omega), hn]
      simp only
      rw [if_neg (by decide), if_neg (by simp), if_pos (by rw [hlen]; omega)]

theorem recB_ne (l : List UInt8) : recB l ≠ [] := fun e => by have := (recB_pos l).1; rw [e] at this; simp at this

/-- the bytes of a row of records -/
def fileB (rs : List (List UInt8)) : List UInt8 := (rs.map recB).flatten
theorem fileB_snoc (rs : List (List UInt8)) (l : List UInt8) : fileB (rs ++ [l]) = fileB rs ++ recB l := by simp [fileB]
theorem fileB_nil : fileB [] = [] := rfl

theorem parseL_file : ∀ (rs : List (List UInt8)) (tail : List UInt8), (∀ r ∈ rs, r.length ≤ 262144) → parseL tail = ([], 0, false) → parseL (fileB rs ++ tail) = (rs, (fileB rs).length, false) := by
  intro rs
  induction rs with
  | nil => intro tail _ h; simpa [fileB] using h
  | cons r rs ih =>
    intro tail hr ht
    have e : fileB (r :: rs) ++ tail = recB r ++ (fileB rs ++ tail) := by simp [fileB]
    have hlr := hr r (by simp)
    have h1 := rec1_rec r (fileB rs ++ tail) hlr
    rw [e, parseL_one (by simp [recB_ne]) h1, List.drop_left' rfl, ih tail (fun r h => hr r (by simp [h])) ht]
    simp [fileB]
theorem parseL_whole (rs : List (List UInt8)) (hr : ∀ r ∈ rs, r.length ≤ 262144) : parseL (fileB rs) = (rs, (fileB rs).length, false) := by
  have := parseL_file rs [] hr parseL_nil
  rwa [List.append_nil] at this
theorem parseL_torn (rs : List (List UInt8)) (l : List UInt8) (j : Nat) (hr : ∀ r ∈ rs, r.length ≤ 262144) (hl : l.length ≤ 262144) (hj : j < (recB l).length) : parseL (fileB rs ++ (recB l).take j) = (rs, (fileB rs).length, false) :=
  parseL_file rs _ hr (parseL_short (rec1_cut l j hl hj))

end Go.Proofs.YtngfhhdmemldkaaGreat
