import Derived.Test.YtggnglgehobglaaGreatDoorN09
/- The words of a line, over bytes. -/
namespace Go.Proofs.YtggnglgehobglaaGreatDoor

/-- behind a quote: how many bytes there are up to the quote that ends the word, it among them -/
def qEnd (l : List UInt8) : Option Nat :=
  if l = [] then none
  else if l.getD 0 0 = 92 then (qEnd (l.drop 2)).map (· + 2)
  else if l.getD 0 0 = 34 then some 1
  else (qEnd (l.drop 1)).map (· + 1)
termination_by l.length
decreasing_by
  all_goals (have : 0 < l.length := List.length_pos_iff.2 (by assumption); rw [List.length_drop]; omega)
theorem qEnd_nil : qEnd [] = none := by rw [qEnd]; simp
theorem qEnd_esc (l : List UInt8) (h : l ≠ []) (hc : l.getD 0 0 = 92) : qEnd l = (qEnd (l.drop 2)).map (· + 2) := by rw [qEnd, if_neg h, if_pos hc]
theorem qEnd_end (l : List UInt8) (h : l ≠ []) (hc : l.getD 0 0 = 34) : qEnd l = some 1 := by rw [qEnd, if_neg h, if_neg (by rw [hc]; decide), if_pos hc]
theorem qEnd_go (l : List UInt8) (h : l ≠ []) (h1 : l.getD 0 0 ≠ 92) (h2 : l.getD 0 0 ≠ 34) : qEnd l = (qEnd (l.drop 1)).map (· + 1) := by rw [qEnd, if_neg h, if_neg h1, if_neg h2]
theorem qEnd_le : ∀ (n : Nat) (l : List UInt8), l.length ≤ n → ∀ k, qEnd l = some k → 1 ≤ k ∧ k ≤ l.length
  | 0, l, h, k, hk => by
    have : l = [] := List.length_eq_zero_iff.1 (by omega)
    rw [this, qEnd_nil] at hk; cases hk
  | n + 1, l, h, k, hk => by
    by_cases e : l = []
    · rw [e, qEnd_nil] at hk; cases hk
    · have hl : 0 < l.length := List.length_pos_iff.2 e
      by_cases h1 : l.getD 0 0 = 92
      · rw [qEnd_esc l e h1] at hk
        cases hq : qEnd (l.drop 2) with
        | none => rw [hq] at hk; cases hk
        | some j =>
          rw [hq] at hk
          obtain rfl : j + 2 = k := by simpa using hk
          have := qEnd_le n (l.drop 2) (by rw [List.length_drop]; omega) j hq
          rw [List.length_drop] at this; omega
      · by_cases h2 : l.getD 0 0 = 34
        · rw [qEnd_end l e h2] at hk; cases hk; omega
        · rw [qEnd_go l e h1 h2] at hk
          cases hq : qEnd (l.drop 1) with
          | none => rw [hq] at hk; cases hk
          | some j =>
            rw [hq] at hk
            obtain rfl : j + 1 = k := by simpa using hk
            have := qEnd_le n (l.drop 1) (by rw [List.length_drop]; omega) j hq
            rw [List.length_drop] at this; omega

/-- how many bytes there are up to the next blank -/
def blk (l : List UInt8) : Nat := (l.takeWhile (fun c => c != 32)).length
theorem blk_nil : blk [] = 0 := rfl
theorem blk_end (l : List UInt8) (h : l.getD 0 0 = 32) : blk l = 0 := by
  cases l with
  | nil => rfl
  | cons c t => simp at h; subst h; rfl
theorem blk_go (l : List UInt8) (hl : l ≠ []) (h : l.getD 0 0 ≠ 32) : blk l = 1 + blk (l.drop 1) := by
  cases l with
  | nil => exact absurd rfl hl
  | cons c t =>
    simp at h
    simp [blk, h]; omega
theorem blk_le (l : List UInt8) : blk l ≤ l.length := by
  unfold blk
  exact (List.takeWhile_prefix (l := l) (p := fun c => c != 32)).length_le
/-- may a word end ahead of these bytes? -/
def endsL (l : List UInt8) : Bool := decide (l = []) || decide (l.getD 0 0 = 32)
theorem blk_ends (l : List UInt8) : endsL (l.drop (blk l)) = true := by
  induction l with
  | nil => rfl
  | cons c t ih =>
    by_cases h : c = 32
    · subst h; rfl
    · rw [blk_go _ (by simp) (by simpa using h), Nat.add_comm]; exact ih

abbrev WRes := Except Nat (List (List UInt8))
def addW (acc : List (List UInt8)) : WRes → WRes
  | .ok ws => .ok (acc ++ ws)
  | .error p => .error p
theorem addW_nil (r : WRes) : addW [] r = r := by cases r <;> rfl
theorem addW_add (a b : List (List UInt8)) (r : WRes) : addW a (addW b r) = addW (a ++ b) r := by cases r <;> simp [addW]

/-- the words of these bytes, of which the first is at place p: or the place of what is wrong -/
def wordsL (l : List UInt8) (p : Nat) : WRes :=
  if l = [] then .ok []
  else if l.getD 0 0 = 35 then .ok []
  else if l.getD 0 0 = 32 then wordsL (l.drop 1) (p + 1)
  else if l.getD 0 0 = 34 then
    match qEnd (l.drop 1) with
    | none => .error p
    | some k =>
      match unq (l.take (k + 1)) with
      | none => .error p
      | some x => if endsL (l.drop (k + 1)) = true then addW [x] (wordsL (l.drop (k + 1)) (p + (k + 1))) else .error p
  else if plainL (l.take (1 + blk (l.drop 1))) = true then addW [l.take (1 + blk (l.drop 1))] (wordsL (l.drop (1 + blk (l.drop 1))) (p + (1 + blk (l.drop 1))))
  else .error p
termination_by l.length
decreasing_by
  all_goals (have : 0 < l.length := List.length_pos_iff.2 (by assumption); rw [List.length_drop]; omega)
theorem wordsL_nil (p : Nat) : wordsL [] p = .ok [] := by rw [wordsL]; simp
theorem wordsL_rem (l : List UInt8) (p : Nat) (h : l ≠ []) (hc : l.getD 0 0 = 35) : wordsL l p = .ok [] := by rw [wordsL, if_neg h, if_pos hc]
theorem wordsL_blank (l : List UInt8) (p : Nat) (h : l ≠ []) (hc : l.getD 0 0 = 32) : wordsL l p = wordsL (l.drop 1) (p + 1) := by
  rw [wordsL, if_neg h, if_neg (by rw [hc]; decide), if_pos hc]
theorem wordsL_open (l : List UInt8) (p : Nat) (h : l ≠ []) (hc : l.getD 0 0 = 34) (hq : qEnd (l.drop 1) = none) : wordsL l p = .error p := by
  rw [wordsL, if_neg h, if_neg (by rw [hc]; decide), if_neg (by rw [hc]; decide), if_pos hc, hq]
theorem wordsL_quote (l : List UInt8) (p k : Nat) (h : l ≠ []) (hc : l.getD 0 0 = 34) (hq : qEnd (l.drop 1) = some k) :
    wordsL l p = if ((unq (l.take (k + 1))).isSome && endsL (l.drop (k + 1))) = true then addW [(unq (l.take (k + 1))).getD []] (wordsL (l.drop (k + 1)) (p + (k + 1))) else .error p := by
  rw [wordsL, if_neg h, if_neg (by rw [hc]; decide), if_neg (by rw [hc]; decide), if_pos hc, hq]
  simp only
  cases hu : unq (l.take (k + 1)) with
  | none => rfl
  | some x => simp
theorem wordsL_plain (l : List UInt8) (p : Nat) (h : l ≠ []) (h1 : l.getD 0 0 ≠ 35) (h2 : l.getD 0 0 ≠ 32) (h3 : l.getD 0 0 ≠ 34) :
    wordsL l p = if plainL (l.take (1 + blk (l.drop 1))) = true then addW [l.take (1 + blk (l.drop 1))] (wordsL (l.drop (1 + blk (l.drop 1))) (p + (1 + blk (l.drop 1)))) else .error p := by
  rw [wordsL, if_neg h, if_neg h1, if_neg h2, if_neg h3]

/-! what holds at the labels -/
/-- at between -/
structure W0 (L : List UInt8) (acc : List (List UInt8)) (at_ : Nat) : Prop where
  le : at_ ≤ L.length
  res : wordsL L 0 = addW acc (wordsL (L.drop at_) at_)
/-- at plain -/
structure W2 (L : List UInt8) (acc : List (List UInt8)) (b at_ : Nat) : Prop where
  ba : b ≤ at_
  lt : at_ < L.length
  h1 : L.getD b 0 ≠ 35
  h2 : L.getD b 0 ≠ 32
  h3 : L.getD b 0 ≠ 34
  end_ : blk (L.drop (b + 1)) = (at_ - b) + blk (L.drop (at_ + 1))
  res : wordsL L 0 = addW acc (wordsL (L.drop b) b)
/-- at quoted -/
structure W1 (L : List UInt8) (acc : List (List UInt8)) (b at_ : Nat) : Prop where
  ba : b ≤ at_
  le : at_ ≤ L.length
  lt : b < L.length
  h : L.getD b 0 = 34
  end_ : qEnd (L.drop (b + 1)) = (qEnd (L.drop (at_ + 1))).map (· + (at_ - b))
  res : wordsL L 0 = addW acc (wordsL (L.drop b) b)
/-- at behind -/
structure W3 (L : List UInt8) (acc : List (List UInt8)) (wd : List UInt8) (rt : Bool) (b at_ : Nat) : Prop where
  ba : b < at_
  le : at_ ≤ L.length
  res : wordsL L 0 = if (rt && endsL (L.drop at_)) = true then addW (acc ++ [wd]) (wordsL (L.drop at_) at_) else .error b

theorem getD_drop (L : List UInt8) (i j : Nat) : (L.drop i).getD j 0 = L.getD (i + j) 0 := by simp [List.getD_eq_getElem?_getD, List.getElem?_drop]
theorem drop_ne (L : List UInt8) (i : Nat) (h : i < L.length) : L.drop i ≠ [] := fun e => by
  have := congrArg List.length e
  rw [List.length_drop, List.length_nil] at this; omega
theorem addW_err (acc : List (List UInt8)) (p : Nat) : addW acc (.error p) = .error p := rfl

theorem W0.stop {L : List UInt8} {acc : List (List UInt8)} {p : Nat} (h : W0 L acc p) (he : p = L.length ∨ (p < L.length ∧ L.getD p 0 = 35)) : wordsL L 0 = .ok acc := by
  rw [h.res]
  rcases he with he | he
  · rw [List.drop_eq_nil_of_le (by omega), wordsL_nil]; simp [addW]
  · rw [wordsL_rem _ _ (drop_ne L p he.1) (by rw [getD_drop]; exact he.2)]; simp [addW]
theorem W0.blank {L : List UInt8} {acc : List (List UInt8)} {p : Nat} (h : W0 L acc p) (hp : p < L.length) (hc : L.getD p 0 = 32) : W0 L acc (p + 1) :=
  ⟨by omega, by rw [h.res, wordsL_blank _ _ (drop_ne L p hp) (by rw [getD_drop]; exact hc), List.drop_drop]⟩
theorem W0.quote {L : List UInt8} {acc : List (List UInt8)} {p : Nat} (h : W0 L acc p) (hp : p < L.length) (hc : L.getD p 0 = 34) : W1 L acc p p :=
  ⟨Nat.le_refl _, by omega, hp, hc, by simp, h.res⟩
theorem W0.plain {L : List UInt8} {acc : List (List UInt8)} {p : Nat} (h : W0 L acc p) (hp : p < L.length) (h1 : L.getD p 0 ≠ 35) (h2 : L.getD p 0 ≠ 32) (h3 : L.getD p 0 ≠ 34) : W2 L acc p p :=
  ⟨Nat.le_refl _, hp, h1, h2, h3, by simp, h.res⟩
theorem W2.go {L : List UInt8} {acc : List (List UInt8)} {b p : Nat} (h : W2 L acc b p) (hp : p + 1 < L.length) (hc : L.getD (p + 1) 0 ≠ 32) : W2 L acc b (p + 1) := by
  have := h.ba
  refine ⟨by omega, hp, h.h1, h.h2, h.h3, ?_, h.res⟩
  rw [h.end_, blk_go _ (drop_ne L _ hp) (by rw [getD_drop]; exact hc), List.drop_drop]
  omega
theorem W2.ends {L : List UInt8} {acc : List (List UInt8)} {b p : Nat} (h : W2 L acc b p) (he : p + 1 = L.length ∨ (p + 1 < L.length ∧ L.getD (p + 1) 0 = 32)) :
    W3 L acc ((L.drop b).take (p + 1 - b)) (plainL ((L.drop b).take (p + 1 - b))) b (p + 1) := by
  have hb := h.ba
  have hl := h.lt
  have hz : blk (L.drop (p + 1)) = 0 := by
    rcases he with he | he
    · rw [List.drop_eq_nil_of_le (by omega)]; rfl
    · exact blk_end _ (by rw [getD_drop]; exact he.2)
  have hE : endsL (L.drop (p + 1)) = true := by
    unfold endsL
    rcases he with he | he
    · rw [List.drop_eq_nil_of_le (by omega)]; rfl
    · rw [getD_drop, show L.getD (p + 1 + 0) 0 = 32 from he.2]; simp
  have hk : 1 + blk ((L.drop b).drop 1) = p + 1 - b := by rw [List.drop_drop, h.end_, hz]; omega
  refine ⟨by omega, by omega, ?_⟩
  rw [h.res, wordsL_plain _ _ (drop_ne L b (by omega)) (by rw [getD_drop]; exact h.h1) (by rw [getD_drop]; exact h.h2) (by rw [getD_drop]; exact h.h3), hk, List.drop_drop, hE, Bool.and_true,
    show b + (p + 1 - b) = p + 1 by omega]
  split
  · rw [addW_add]
  · rfl
theorem W1.esc {L : List UInt8} {acc : List (List UInt8)} {b p : Nat} (h : W1 L acc b p) (hp : p + 1 < L.length) (hc : L.getD (p + 1) 0 = 92) : W1 L acc b (p + 2) := by
  have hb := h.ba
  refine ⟨by omega, by omega, h.lt, h.h, ?_, h.res⟩
  rw [h.end_, qEnd_esc _ (drop_ne L _ hp) (by rw [getD_drop]; exact hc), List.drop_drop, Option.map_map]
  congr 1
  funext x; simp; omega
theorem W1.go {L : List UInt8} {acc : List (List UInt8)} {b p : Nat} (h : W1 L acc b p) (hp : p + 1 < L.length) (h1 : L.getD (p + 1) 0 ≠ 92) (h2 : L.getD (p + 1) 0 ≠ 34) : W1 L acc b (p + 1) := by
  have hb := h.ba
  refine ⟨by omega, by omega, h.lt, h.h, ?_, h.res⟩
  rw [h.end_, qEnd_go _ (drop_ne L _ hp) (by rw [getD_drop]; exact h1) (by rw [getD_drop]; exact h2), List.drop_drop, Option.map_map]
  congr 1
  funext x; simp; omega
theorem W1.over {L : List UInt8} {acc : List (List UInt8)} {b p : Nat} (h : W1 L acc b p) (hp : L.length ≤ p + 1) : wordsL L 0 = .error b := by
  have hq : qEnd ((L.drop b).drop 1) = none := by
    rw [List.drop_drop, h.end_, List.drop_eq_nil_of_le (by omega), qEnd_nil]; rfl
  rw [h.res, wordsL_open _ _ (drop_ne L b h.lt) (by rw [getD_drop]; exact h.h) hq]; rfl
theorem W1.close {L : List UInt8} {acc : List (List UInt8)} {b p : Nat} (h : W1 L acc b p) (hp : p + 1 < L.length) (hc : L.getD (p + 1) 0 = 34) :
    W3 L acc ((unq ((L.drop b).take (p + 2 - b))).getD []) (unq ((L.drop b).take (p + 2 - b))).isSome b (p + 2) := by
  have hb := h.ba
  have hq : qEnd ((L.drop b).drop 1) = some (p + 1 - b) := by
    rw [List.drop_drop, h.end_, qEnd_end _ (drop_ne L _ hp) (by rw [getD_drop]; exact hc)]
    simp; omega
  refine ⟨by omega, by omega, ?_⟩
  rw [h.res, wordsL_quote _ _ _ (drop_ne L b h.lt) (by rw [getD_drop]; exact h.h) hq, List.drop_drop, show p + 1 - b + 1 = p + 2 - b by omega, show b + (p + 2 - b) = p + 2 by omega]
  split
  · rw [addW_add]
  · rfl
theorem W3.wrong {L : List UInt8} {acc : List (List UInt8)} {wd : List UInt8} {rt : Bool} {b p : Nat} (h : W3 L acc wd rt b p) (he : rt = false ∨ endsL (L.drop p) = false) : wordsL L 0 = .error b := by
  rw [h.res]
  rcases he with he | he <;> rw [he] <;> simp
theorem W3.next {L : List UInt8} {acc : List (List UInt8)} {wd : List UInt8} {rt : Bool} {b p : Nat} (h : W3 L acc wd rt b p) (hr : rt = true) (he : endsL (L.drop p) = true) : W0 L (acc ++ [wd]) p :=
  ⟨h.le, by rw [h.res, hr, he]; rfl⟩
end Go.Proofs.YtggnglgehobglaaGreatDoor
