import Derived.Test.YtggnglgehobglaaGreatDoorP07
/- The words of a line, over bytes. -/
namespace Go.Proofs.YtggnglgehobglaaGreatDoor

/-- behind a quote: how many bytes there are up to the quote that ends the word, it among them -/
def qEnd (l : List UInt8) : Option Nat :=
  if l = [] then none
  else if l.getD 0 0 = 92 then (qEnd (l.drop 2)).map (· + 2)
  else if l.getD 0 0 = 34 then some 1
  else (qEnd (l.drop 1)).map (· + 1)
termination_by l.length
decreasing_by
  all_goals (have : 0 < l.length := List.length_pos_iff.2 (by assumption); rw [List.length_drop]; omega)
theorem qEnd_nil : qEnd [] = none := by rw [qEnd]; simp
theorem qEnd_esc (l : List UInt8) (h : l ≠ []) (hc : l.getD 0 0 = 92) : qEnd l = (qEnd (l.drop 2)).map (· + 2) := by rw [qEnd, if_neg h, if_pos hc]
theorem qEnd_end (l : List UInt8) (h : l ≠ []) (hc : l.getD 0 0 = 34) : qEnd l = some 1 := by rw [qEnd, if_neg h, if_neg (by rw [hc]; decide), if_pos hc]
theorem qEnd_go (l : List UInt8) (h : l ≠ []) (h1 : l.getD 0 0 ≠ 92) (h2 : l.getD 0 0 ≠ 34) : qEnd l = (qEnd (l.drop 1)).map (· + 1) := by rw [qEnd, if_neg h, if_neg h1, if_neg h2]
theorem qEnd_le : ∀ (n : Nat) (l : List UInt8), l.length ≤ n → ∀ k, qEnd l = some k → 1 ≤ k ∧ k ≤ l.length
  | 0, l, h, k, hk => by
    have : l = [] := List.length_eq_zero_iff.1 (by omega)
    rw [this, qEnd_nil] at hk; cases hk
  | n + 1, l, h, k, hk => by
    by_cases e : l = []
    · rw [e, qEnd_nil] at hk; cases hk
    · have hl : 0 < l.length := List.length_pos_iff.2 e
      by_cases h1 : l.getD 0 0 = 92
      · rw [qEnd_esc l e h1] at hk
        cases hq : qEnd (l.drop 2) with
        | none => rw [hq] at hk; cases hk
        | some j =>
          rw [hq] at hk
          obtain rfl : j + 2 = k := by simpa using hk
          have := qEnd_le n (l.drop 2) (by rw [List.length_drop]; omega) j hq
          rw [List.length_drop] at this; omega
      · by_cases h2 : l.getD 0 0 = 34
        · rw [qEnd_end l e h2] at hk; cases hk; omega
        · rw [qEnd_go l e h1 h2] at hk
          cases hq : qEnd (l.drop 1) with
          | none => rw [hq] at hk; cases hk
          | some j =>
            rw [hq] at hk
            obtain rfl : j + 1 = k := by simpa using hk
            have := qEnd_le n (l.drop 1) (by rw [List.length_drop]; omega) j hq
            rw [List.length_drop] at this; omega

/-- how many bytes there are up to the next blank -/
def blk (l : List UInt8) : Nat := (l.takeWhile (fun c => c != 32)).length
theorem blk_nil : blk [] = 0 := rfl
theorem blk_end (l : List UInt8) (h : l.getD 0 0 = 32) : blk l = 0 := by
  cases l with
  | nil => rfl
  | cons c t => simp at h; subst h; rfl
theorem blk_go (l : List UInt8) (hl : l ≠ []) (h : l.getD 0 0 ≠ 32) : blk l = 1 + blk (l.drop 1) := by
  cases l with
  | nil => exact absurd rfl hl
  | cons c t =>
    simp at h
    simp [blk, h]; omega
theorem blk_le (l : List UInt8) : blk l ≤ l.length := by
  unfold blk
  exact (List.takeWhile_prefix (l := l) (p := fun c => c != 32)).length_le
/-- may a word end ahead of these bytes? -/
def endsL (l : List UInt8) : Bool := decide (l = []) || decide (l.getD 0 0 = 32)
theorem blk_ends (l : List UInt8) : endsL (l.drop (blk l)) = true := by
  induction l with
  | nil => rfl
  | cons c t ih =>
    by_cases h : c = 32
    · subst h; rfl
    · rw [blk_go _ (by simp) (by simpa using h), Nat.add_comm]; exact ih

abbrev WRes := Except Nat (List (List UInt8))
def addW (acc : List (List UInt8)) : WRes → WRes
  | .ok ws => .ok (acc ++ ws)
  | .error p => .error p
theorem addW_nil (r : WRes) : addW [] r = r := by cases r <;> rfl
theorem addW_add (a b : List (List UInt8)) (r : WRes) : addW a (addW b r) = addW (a ++ b) r := by cases r <;> simp [addW]

/-- the words of these bytes, of which the first is at place p: or the place of what is wrong -/
def wordsL (l : List UInt8) (p : Nat) : WRes :=
  if l = [] then .ok []
  else if l.getD 0 0 = 35 then .ok []
  else if l.getD 0 0 = 32 then wordsL (l.drop 1) (p + 1)
  else if l.getD 0 0 = 34 then
    match qEnd (l.drop 1) with
    | none => .error p
    | some k =>
      match unq (l.take (k + 1)) with
      | none => .error p
      | some x => if endsL (l.drop (k + 1)) = true then addW [x] (wordsL (l.drop (k + 1)) (p + (k + 1))) else .error p
  else if plainL (l.take (1 + blk (l.drop 1))) = true then addW [l.take (1 + blk (l.drop 1))] (wordsL (l.drop (1 + blk (l.drop 1))) (p + (1 + blk (l.drop 1))))
  else .error p
termination_by l.length
decreasing_by
  all_goals (have : 0 < l.length := List.length_pos_iff.2 (by assumption); rw [List.length_drop]; omega)
theorem wordsL_nil (p : Nat) : wordsL [] p = .ok [] := by rw [wordsL]; simp
theorem wordsL_rem (l : List UInt8) (p : Nat) (h : l ≠ []) (hc : l.getD 0 0 = 35) : wordsL l p = .ok [] := by rw [wordsL, if_neg h, if_pos hc]
theorem wordsL_blank (l : List UInt8) (p : Nat) (h : l ≠ []) (hc : l.getD 0 0 = 32) : wordsL l p = wordsL (l.drop 1) (p + 1) := by
  rw [wordsL, if_neg h, if_neg (by rw [hc]; decide), if_pos hc]
theorem wordsL_open (l : List UInt8) (p : Nat) (h : l ≠ []) (hc : l.getD 0 0 = 34) (hq : qEnd (l.drop 1) = none) : wordsL l p = .error p := by
  rw [wordsL, if_neg h, if_neg (by rw [hc]; decide), if_neg (by rw [hc]; decide), if_pos hc, hq]
theorem wordsL_quote (l : List UInt8) (p k : Nat) (h : l ≠ []) (hc : l.getD 0 0 = 34) (hq : qEnd (l.drop 1) = some k) :
    wordsL l p = if ((unq (l.take (k + 1))).isSome && endsL (l.drop (k + 1))) = true then addW [(unq (l.take (k + 1))).getD []] (wordsL (l.drop (k + 1)) (p + (k + 1))) else .error p := by
  rw [wordsL, if_neg h, if_neg (by rw [hc]; decide), if_neg (by rw [hc]; decide), if_pos hc, hq]
  simp only
  cases hu : unq (l.take (k + 1)) with
  | none => rfl
  | some x => simp
theorem wordsL_plain (l : List UInt8) (p : Nat) (h : l ≠ []) (h1 : l.getD 0 0 ≠ 35) (h2 : l.getD 0 0 ≠ 32) (h3 : l.getD 0 0 ≠ 34) :
    wordsL l p = if plainL (l.take (1 + blk (l.drop 1))) = true then addW [l.take (1 + blk (l.drop 1))] (wordsL (l.drop (1 + blk (l.drop 1))) (p + (1 + blk (l.drop 1)))) else .error p := by
  rw [wordsL, if_neg h, if_neg h1, if_neg h2, if_neg h3]

/-! what holds at the labels -/
/-- at between -/
structure W0 (L : List UInt8) (acc : List (List UInt8)) (at_ : Nat) : Prop where
  le : at_ ≤ L.length
  res : wordsL L 0 = addW acc (wordsL (L.drop at_) at_)
/-- at plain -/
structure W2 (L : List UInt8) (acc : List (List UInt8)) (b at_ : Nat) : Prop where
  ba : b ≤ at_
  lt : at_ < L.length
  h1 : L.getD b 0 ≠ 35
  h2 : L.getD b 0 ≠ 32
  h3 : L.getD b 0 ≠ 34
  end_ : blk (L.drop (b + 1)) = (at_ - b) + blk (L.drop (at_ + 1))
  res : wordsL L 0 = addW acc (wordsL (L.drop b) b)
/-- at quoted -/
structure W1 (L : List UInt8) (acc : List (List UInt8)) (b at_ : Nat) : Prop where
  ba : b ≤ at_
  le : at_ ≤ L.length
  lt : b < L.length
  h : L.getD b 0 = 34
  end_ : qEnd (L.drop (b + 1)) = (qEnd (L.drop (at_ + 1))).map (· + (at_ - b))
  res : wordsL L 0 = addW acc (wordsL (L.drop b) b)
/-- at behind -/
structure W3 (L : List UInt8) (acc : List (List UInt8)) (wd : List UInt8) (rt : Bool) (b at_ : Nat) : Prop where
  ba : b < at_
  le : at_ ≤ L.length
  res : wordsL L 0 = if (rt && endsL (L.drop at_)) = true then addW (acc ++ [wd]) (wordsL (L.drop at_) at_) else .error b

theorem getD_drop (L : List UInt8) (i j : Nat) : (L.drop i).getD j 0 = L.getD (i + j) 0 := by simp [List.getD_eq_getElem?_getD, List.getElem?_drop]
theorem drop_ne (L : List UInt8) (i : Nat) (h : i < L.length) : L.drop i ≠ [] := fun e => by
  have := congrArg List.length e
  rw [List.length_drop, List.length_nil] at this; omega
theorem addW_err (acc : List (List UInt8)) (p : Nat) : addW acc (.error p) = .error p := rfl

theorem W0.stop {L : List UInt8} {acc : List (List UInt8)} {p : Nat} (h : W0 L acc p) (he : p = L.length ∨ (p < L.length ∧ L.getD p 0 = 35)) : wordsL L 0 = .ok acc := by
  rw [h.res]
  rcases he with he | he
  · rw [List.drop_eq_nil_of_le (by omega), wordsL_nil]; simp [addW]
  · rw [wordsL_rem _ _ (drop_ne L p he.1) (by rw [getD_drop]; exact he.2)]; simp [addW]
theorem W0.blank {L : List UInt8} {acc : List (List UInt8)} {p : Nat} (h : W0 L acc p) (hp : p < L.length) (hc : L.getD p 0 = 32) : W0 L acc (p + 1) :=
  ⟨by omega, by rw [h.res, wordsL_blank _ _ (drop_ne L p hp) (by rw [getD_drop]; exact hc), List.drop_drop]⟩
theorem W0.quote {L : List UInt8} {acc : List (List UInt8)} {p : Nat} (h : W0 L acc p) (hp : p < L.length) (hc : L.getD p 0 = 34) : W1 L acc p p :=
  ⟨Nat.le_refl _, by omega, hp, hc, by simp, h.res⟩
theorem W0.plain {L : List UInt8} {acc : List (List UInt8)} {p : Nat} (h : W0 L acc p) (hp : p < L.length) (h1 : L.getD p 0 ≠ 35) (h2 : L.getD p 0 ≠ 32) (h3 : L.getD p 0 ≠ 34) : W2 L acc p p :=
  ⟨Nat.le_refl _, hp, h1, h2, h3, by simp, h.res⟩
theorem W2.go {L : List UInt8} {acc : List (List UInt8)} {b p : Nat} (h : W2 L acc b p) (hp : p + 1 < L.length) (hc : L.getD (p + 1) 0 ≠ 32) : W2 L acc b (p + 1) := by
  have := h.ba
  refine ⟨by omega, hp, h.h1, h.h2, h.h3, ?_, h.res⟩
  rw [h.end_, blk_go _ (drop_ne L _ hp) (by rw [getD_drop]; exact hc), List.drop_drop]
  omega
theorem W2.ends {L : List UInt8} {acc : List (List UInt8)} {b p : Nat} (h : W2 L acc b p) (he : p + 1 = L.length ∨ (p + 1 < L.length ∧ L.getD (p + 1) 0 = 32)) :
    W3 L acc ((L.drop b).take (p + 1 - b)) (plainL ((L.drop b).take (p + 1 - b))) b (p + 1) := by
  have hb := h.ba
  have hl := h.lt
  have hz : blk (L.drop (p + 1)) = 0 := by
    rcases he with he | he
    · rw [List.drop_eq_nil_of_le (by omega)]; rfl
    · exact blk_end _ (by rw [getD_drop]; exact he.2)
  have hE : endsL (L.drop (p + 1)) = true := by
    unfold endsL
    rcases he with he | he
    · rw [List.drop_eq_nil_of_le (by omega)]; rfl
    · rw [getD_drop, show L.getD (p + 1 + 0) 0 = 32 from he.2]; simp
  have hk : 1 + blk ((L.drop b).drop 1) = p + 1 - b := by rw [List.drop_drop, h.end_, hz]; omega
  refine ⟨by omega, by omega, ?_⟩
  rw [h.res, wordsL_plain _ _ (drop_ne L b (by omega)) (by rw [getD_drop]; exact h.h1) (by rw [getD_drop]; exact h.h2) (by rw [getD_drop]; exact h.h3), hk, List.drop_drop, hE, Bool.and_true,
    show b + (p + 1 - b) = p + 1 by omega]
  split
  · rw [addW_add]
  · rfl
theorem W1.esc {L : List UInt8} {acc : List (List UInt8)} {b p : Nat} (h : W1 L acc b p) (hp : p + 1 < L.length) (hc : L.getD (p + 1) 0 = 92) : W1 L acc b (p + 2) := by
  have hb := h.ba
  refine ⟨by omega, by omega, h.lt, h.h, ?_, h.res⟩
  rw [h.end_, qEnd_esc _ (drop_ne L _ hp) (by rw [getD_drop]; exact hc), List.drop_drop, Option.map_map]
  congr 1
  funext x; simp; omega
theorem W1.go {L : List UInt8} {acc : List (List UInt8)} {b p : Nat} (h : W1 L acc b p) (hp : p + 1 < L.length) (h1 : L.getD (p + 1) 0 ≠ 92) (h2 : L.getD (p + 1) 0 ≠ 34) : W1 L acc b (p + 1) := by
  have hb := h.ba
  refine ⟨by omega, by omega, h.lt, h.h, ?_, h.res⟩
  rw [h.end_, qEnd_go _ (drop_ne L _ hp) (by rw [getD_drop]; exact h1) (by rw [getD_drop]; exact h2), List.drop_drop, Option.map_map]
  congr 1
  funext x; simp; omega
theorem W1.over {L : List UInt8} {acc : List (List UInt8)} {b p : Nat} (h : W1 L acc b p) (hp : L.length ≤ p + 1) : wordsL L 0 = .error b := by
  have hq : qEnd ((L.drop b).drop 1) = none := by
    rw [List.drop_drop, h.end_, List.drop_eq_nil_of_le (by omega), qEnd_nil]; rfl
  rw [h.res, wordsL_open _ _ (drop_ne L b h.lt) (by rw [getD_drop]; exact h.h) hq]; rfl
theorem W1.close {L : List UInt8} {acc : List (List UInt8)} {b p : Nat} (h : W1 L acc b p) (hp : p + 1 < L.length) (hc : L.getD (p + 1) 0 = 34) :
    W3 L acc ((unq ((L.drop b).take (p + 2 - b))).getD []) (unq ((L.drop b).take (p + 2 - b))).isSome b (p + 2) := by
  have hb := h.ba
  have hq : qEnd ((L.drop b).drop 1) = some (p + 1 - b) := by
    rw [List.drop_drop, h.end_, qEnd_end _ (drop_ne L _ hp) (by rw [getD_drop]; exact hc)]
    simp; omega
  refine ⟨by omega, by omega, ?_⟩
  rw [h.res, wordsL_quote _ _ _ (drop_ne L b h.lt) (by rw [getD_drop]; exact h.h) hq, List.drop_drop, show p + 1 - b + 1 = p + 2 - b by omega, show b + (p + 2 - b) = p + 2 by omega]
  split
  · rw [addW_add]
  · rfl
theorem W3.wrong {L : List UInt8} {acc : List (List UInt8)} {wd : List UInt8} {rt : Bool} {b p : Nat} (h : W3 L acc wd rt b p) (he : rt = false ∨ endsL (L.drop p) = false) : wordsL L 0 = .error b := by
  rw [h.res]
  rcases he with he | he <;> rw [he] <;> simp
theorem W3.next {L : List UInt8} {acc : List (List UInt8)} {wd : List UInt8} {rt : Bool} {b p : Nat} (h : W3 L acc wd rt b p) (hr : rt = true) (he : endsL (L.drop p) = true) : W0 L (acc ++ [wd]) p :=
  ⟨h.le, by rw [h.res, hr, he]; rfl⟩
end Go.Proofs.YtggnglgehobglaaGreatDoor

/- What is quoted comes back as the words of a line: over bytes. -/
namespace Go.Proofs.YtggnglgehobglaaGreatDoor

/-- bytes that end no quoted word -/
theorem qEnd_raw : ∀ (p Y : List UInt8), (∀ c ∈ p, c ≠ 92 ∧ c ≠ 34) → qEnd (p ++ Y) = (qEnd Y).map (· + p.length)
  | [], Y, _ => by simp
  | c :: t, Y, h => by
    have h1 := h c (by simp)
    rw [qEnd_go (c :: t ++ Y) (by simp) (by simpa using h1.1) (by simpa using h1.2)]
    show (qEnd (t ++ Y)).map _ = _
    rw [qEnd_raw t Y (fun d hd => h d (by simp [hd])), Option.map_map]
    congr 1
theorem qEnd_two (c : UInt8) (Y : List UInt8) : qEnd (92 :: c :: Y) = (qEnd Y).map (· + 2) := by
  rw [qEnd_esc _ (by simp) rfl]; rfl
theorem hexd_no (x : Nat) (h : x < 16) : hexd x ≠ 92 ∧ hexd x ≠ 34 := by
  have : ∀ z : Fin 16, hexd z.val ≠ 92 ∧ hexd z.val ≠ 34 := by decide +kernel
  exact this ⟨x, h⟩
theorem qEnd_escs : ∀ (l Y : List UInt8), qEnd (escs l ++ Y) = (qEnd Y).map (· + (escs l).length)
  | [], Y => by simp [escs]
  | b :: t, Y => by
    have e : escs (b :: t) ++ Y = 92 :: 120 :: ([hexd (b.toNat / 16), hexd (b.toNat % 16)] ++ (escs t ++ Y)) := by simp [escs, esc]
    have hb := b.toNat_lt
    rw [e, qEnd_two, qEnd_raw _ _ (by
      intro c hc
      rcases List.mem_cons.1 hc with rfl | hc
      · exact hexd_no _ (by omega)
      · rcases List.mem_cons.1 hc with rfl | hc
        · exact hexd_no _ (by omega)
        · cases hc), qEnd_escs t Y, Option.map_map, Option.map_map]
    congr 1
/-- the bytes of the piece at the front -/
theorem piece_bytes (l : List UInt8) (hl : l ≠ []) (c : UInt8) (hc : c ∈ l.take (dec l).2) : (c.toNat = (dec l).1 ∧ (dec l).1 < 128) ∨ (128 ≤ c.toNat ∧ 128 ≤ (dec l).1) := by
  by_cases h : (dec l).1 < 128
  · left
    rw [dec_byte l hl _ rfl h] at hc
    obtain rfl : c = UInt8.ofNat (dec l).1 := by simpa using hc
    exact ⟨by rw [UInt8.toNat_ofNat']; omega, h⟩
  · right
    refine ⟨?_, by omega⟩
    obtain ⟨k, hk, rfl⟩ := List.mem_iff_getElem.1 hc
    rw [List.length_take] at hk
    rw [List.getElem_take]
    by_cases h0 : k = 0
    · subst h0
      match l, hl with
      | a :: t, _ => exact dec_lead a t (by omega)
    · have := dec_inner l k (by omega) (by omega)
      rw [List.getD_eq_getElem?_getD, List.getElem?_eq_getElem (by omega)] at this
      exact this
theorem qEnd_piece (l Y : List UInt8) (hl : l ≠ []) : qEnd (qpiece l ++ Y) = (qEnd Y).map (· + (qpiece l).length) := by
  unfold qpiece
  split
  · exact qEnd_two _ Y
  · rename_i h1
    split
    · exact qEnd_two _ Y
    · split
      · exact qEnd_escs _ Y
      · refine qEnd_raw _ Y fun c hc => ?_
        rcases piece_bytes l hl c hc with h | h
        · exact ⟨fun e => h1 (.inr (by rw [← h.1, e]; rfl)), fun e => h1 (.inl (by rw [← h.1, e]; rfl))⟩
        · exact ⟨fun e => by rw [e] at h; exact absurd h.1 (by decide), fun e => by rw [e] at h; exact absurd h.1 (by decide)⟩
theorem qEnd_qs : ∀ (k : Nat) (l Y : List UInt8), l.length ≤ k → qEnd (qs l ++ Y) = (qEnd Y).map (· + (qs l).length)
  | 0, l, Y, h => by
    have : l = [] := List.length_eq_zero_iff.1 (by omega)
    rw [this, qs_nil]; simp
  | k + 1, l, Y, h => by
    by_cases e : l = []
    · rw [e, qs_nil]; simp
    · have h1 := drop_lt l e
      rw [qs_go l e, List.append_assoc, qEnd_piece l _ e, qEnd_qs k _ Y (by omega), Option.map_map, List.length_append]
      congr 1
      funext x; simp; omega
theorem qEnd_quote (l X : List UInt8) : qEnd (qs l ++ 34 :: X) = some ((qs l).length + 1) := by
  rw [qEnd_qs _ l _ (Nat.le_refl _), qEnd_end _ (by simp) rfl]; simp; omega

/-- a plain word has no blank -/
theorem plainF_blank : ∀ (k : Nat) (l : List UInt8), l.length ≤ k → plainF l = true → ∀ c ∈ l, c ≠ 32
  | 0, l, h, _, c, hc => by
    have : l = [] := List.length_eq_zero_iff.1 (by omega)
    rw [this] at hc; cases hc
  | k + 1, l, h, hp, c, hc => by
    by_cases e : l = []
    · rw [e] at hc; cases hc
    · have h1 := drop_lt l e
      rw [plainF_go l e] at hp
      have hp1 := (Bool.and_eq_true _ _ ▸ hp).1
      have hp2 := (Bool.and_eq_true _ _ ▸ hp).2
      rw [← List.take_append_drop (dec l).2 l] at hc
      rcases List.mem_append.1 hc with hc | hc
      · intro ec
        subst ec
        rcases piece_bytes l e _ hc with h | h
        · have : (dec l).1 = 32 := h.1.symm
          simp [badw, this] at hp1
        · exact absurd h.1 (by decide)
      · exact plainF_blank k _ (by omega) hp2 c hc
theorem plainF_first (l : List UInt8) (h : l ≠ []) (hp : plainF l = true) : l.getD 0 0 ≠ 32 ∧ l.getD 0 0 ≠ 34 := by
  rw [plainF_go l h] at hp
  have hp1 := (Bool.and_eq_true _ _ ▸ hp).1
  match l, h with
  | a :: t, _ =>
    refine ⟨fun e => ?_, fun e => ?_⟩ <;>
    · simp at e; subst e
      rw [badw, dec_ascii _ t (by decide)] at hp1
      simp at hp1
theorem blk_word : ∀ (p X : List UInt8), (∀ c ∈ p, c ≠ 32) → endsL X = true → blk (p ++ X) = p.length
  | [], X, _, hX => by
    unfold endsL at hX
    by_cases e : X = []
    · rw [e]; rfl
    · rw [decide_eq_false e, Bool.false_or] at hX
      exact blk_end _ (of_decide_eq_true hX)
  | c :: t, X, h, hX => by
    rw [blk_go (c :: t ++ X) (by simp) (by simpa using h c (by simp))]
    show 1 + blk (t ++ X) = _
    rw [blk_word t X (fun d hd => h d (by simp [hd])) hX, List.length_cons]; omega

def wordL (s : List UInt8) : List UInt8 := if plainL s = true then s else quoteL s
theorem take_len_append (a b : List UInt8) : (a ++ b).take a.length = a := by simp
theorem drop_len_append (a b : List UInt8) : (a ++ b).drop a.length = b := by simp
theorem wordsL_quoted (s X : List UInt8) (p : Nat) (hX : endsL X = true) : wordsL (quoteL s ++ X) p = addW [s] (wordsL X (p + (quoteL s).length)) := by
  have hlen : (quoteL s).length = (qs s).length + 1 + 1 := by simp [quoteL]
  have hne : quoteL s ++ X ≠ [] := by simp [quoteL]
  have hd : (quoteL s ++ X).drop 1 = qs s ++ 34 :: X := by simp [quoteL]
  rw [wordsL_quote _ p ((qs s).length + 1) hne rfl (by rw [hd]; exact qEnd_quote s X), ← hlen, take_len_append, drop_len_append, unq_quote, hX]
  simp
theorem wordsL_word (s X : List UInt8) (p : Nat) (hX : endsL X = true) : wordsL (wordL s ++ X) p = addW [s] (wordsL X (p + (wordL s).length)) := by
  unfold wordL
  by_cases hs : plainL s = true
  · rw [if_pos hs]
    have hs' := hs
    unfold plainL at hs'
    have h3 := (Bool.and_eq_true _ _ ▸ hs').2
    have h12 := (Bool.and_eq_true _ _ ▸ hs').1
    have h1 := of_decide_eq_true (Bool.and_eq_true _ _ ▸ h12).1
    have h2 := of_decide_eq_true (Bool.and_eq_true _ _ ▸ h12).2
    have hf := plainF_first s h1 h3
    have hb := plainF_blank _ s (Nat.le_refl _) h3
    match s, h1 with
    | a :: t, _ =>
      have hk : 1 + blk ((a :: t ++ X).drop 1) = (a :: t).length := by
        show 1 + blk (t ++ X) = _
        rw [blk_word t X (fun c hc => hb c (by simp [hc])) hX, List.length_cons]; omega
      rw [wordsL_plain _ p (by simp) (by simpa using h2) (by simpa using hf.1) (by simpa using hf.2), hk, take_len_append, drop_len_append, if_pos hs]
  · rw [if_neg hs]; exact wordsL_quoted s X p hX

/-- the words behind the first of a line -/
def tailL (ws : List (List UInt8)) : List UInt8 := ws.flatMap fun w => 32 :: wordL w
def lineL : List (List UInt8) → List UInt8
  | [] => []
  | w :: r => wordL w ++ tailL r
theorem tailL_ends (ws : List (List UInt8)) : endsL (tailL ws) = true := by
  cases ws with
  | nil => rfl
  | cons w r => simp [tailL, endsL]
theorem wordsL_tail : ∀ (ws : List (List UInt8)) (p : Nat), wordsL (tailL ws) p = .ok ws
  | [], p => wordsL_nil p
  | w :: r, p => by
    have e : tailL (w :: r) = 32 :: (wordL w ++ tailL r) := by simp [tailL]
    rw [e, wordsL_blank _ _ (by simp) rfl]
    show wordsL (wordL w ++ tailL r) (p + 1) = _
    rw [wordsL_word w _ _ (tailL_ends r), wordsL_tail r]; rfl
theorem wordsL_line (ws : List (List UInt8)) : wordsL (lineL ws) 0 = .ok ws := by
  cases ws with
  | nil => exact wordsL_nil 0
  | cons w r =>
    show wordsL (wordL w ++ tailL r) 0 = _
    rw [wordsL_word w _ _ (tailL_ends r), wordsL_tail r]; rfl
theorem lineL_snoc (ws : List (List UInt8)) (w : List UInt8) : lineL (ws ++ [w]) = lineL ws ++ (if ws = [] then [] else [32]) ++ wordL w := by
  cases ws with
  | nil => simp [lineL, tailL]
  | cons v r => simp [lineL, tailL]
theorem wordL_len (s : List UInt8) : (wordL s).length ≤ 4 * s.length + 2 := by
  unfold wordL
  split
  · omega
  · have := qs_len _ s (Nat.le_refl _)
    simp [quoteL]; omega
theorem lineL_len (ws : List (List UInt8)) : (lineL ws).length ≤ 4 * (ws.map List.length).sum + 3 * ws.length := by
  have ht : ∀ r : List (List UInt8), (tailL r).length ≤ 4 * (r.map List.length).sum + 3 * r.length := by
    intro r
    induction r with
    | nil => simp [tailL]
    | cons v t ih =>
      have := wordL_len v
      have e : tailL (v :: t) = 32 :: (wordL v ++ tailL t) := by simp [tailL]
      rw [e, List.length_cons, List.length_append, List.map_cons, List.sum_cons, List.length_cons]; omega
  cases ws with
  | nil => simp [lineL]
  | cons w r =>
    have := wordL_len w
    have h2 := ht r
    show (wordL w ++ tailL r).length ≤ _
    rw [List.length_append, List.map_cons, List.sum_cons, List.length_cons]; omega
end Go.Proofs.YtggnglgehobglaaGreatDoor
