import Derived.Test.YtggnglgehobglaaGreatDoorT10
/- What is quoted is right: over bytes. -/
namespace Go.Proofs.YtggnglgehobglaaGreatDoor

/-- is there neither a control nor a broken byte? -/
def okq (l : List UInt8) : Bool :=
  if l = [] then true else !(ctl (dec l).1 || brk l) && okq (l.drop (dec l).2)
termination_by l.length
decreasing_by exact drop_lt l (by assumption)
theorem okq_nil : okq [] = true := by rw [okq]; simp
theorem okq_go (l : List UInt8) (h : l ≠ []) : okq l = (!(ctl (dec l).1 || brk l) && okq (l.drop (dec l).2)) := by rw [okq, if_neg h]
theorem okq_low (c : UInt8) (Y : List UInt8) (h1 : 32 ≤ c.toNat) (h2 : c.toNat < 127) : okq (c :: Y) = okq Y := by
  rw [okq_go _ (by simp), brk, dec_ascii c Y (by omega)]
  have e1 : ctl c.toNat = false := by unfold ctl; simp; omega
  have e2 : decide (c.toNat = 65533) = false := decide_eq_false (by omega)
  simp only [e1, e2]; simp
theorem okq_escs : ∀ (l Y : List UInt8), okq (escs l ++ Y) = okq Y
  | [], Y => rfl
  | b :: t, Y => by
    have e : escs (b :: t) ++ Y = 92 :: 120 :: hexd (b.toNat / 16) :: hexd (b.toNat % 16) :: (escs t ++ Y) := by simp [escs, esc]
    have hb := b.toNat_lt
    have h1 := hexd_print (b.toNat / 16) (by omega)
    have h2 := hexd_print (b.toNat % 16) (by omega)
    rw [e, okq_low _ _ (by decide) (by decide), okq_low _ _ (by decide) (by decide), okq_low _ _ (by omega) (by omega), okq_low _ _ (by omega) (by omega), okq_escs t Y]
theorem okq_piece (l Y : List UInt8) (hl : l ≠ []) : okq (qpiece l ++ Y) = okq Y := by
  unfold qpiece
  by_cases h1 : (dec l).1 = 34 ∨ (dec l).1 = 92
  · rw [if_pos h1]
    rcases h1 with h1 | h1 <;> rw [h1] <;>
    · show okq (92 :: _ :: Y) = _
      rw [okq_low _ _ (by decide) (by decide), okq_low _ _ (by decide) (by decide)]
  · rw [if_neg h1]
    by_cases h2 : (dec l).1 = 10
    · rw [if_pos h2]
      show okq (92 :: 110 :: Y) = _
      rw [okq_low _ _ (by decide) (by decide), okq_low _ _ (by decide) (by decide)]
    · rw [if_neg h2]
      by_cases h3 : (ctl (dec l).1 || brk l) = true
      · rw [if_pos h3]; exact okq_escs _ Y
      · rw [if_neg h3]
        have h3' : (ctl (dec l).1 || brk l) = false := Bool.eq_false_iff.2 h3
        have hb : brk l = false := (Bool.or_eq_false_iff.1 h3').2
        have hd := dec_form' l hl hb Y
        have hn := dec_le l hl
        have hp := dec_pos l
        have hne : l.take (dec l).2 ++ Y ≠ [] := by
          intro e
          have := congrArg List.length e
          rw [List.length_append, List.length_take, List.length_nil] at this; omega
        have hb' : brk (l.take (dec l).2 ++ Y) = false := by rw [brk_iff _ hne, hd, ← brk_iff l hl]; exact hb
        rw [okq_go _ hne, hb', hd, (Bool.or_eq_false_iff.1 h3').1, List.drop_append_of_le_length (by rw [List.length_take]; omega), List.drop_take]
        simp
theorem okq_qs : ∀ (k : Nat) (l Y : List UInt8), l.length ≤ k → okq (qs l ++ Y) = okq Y
  | 0, l, Y, h => by
    have : l = [] := List.length_eq_zero_iff.1 (by omega)
    rw [this, qs_nil]; rfl
  | k + 1, l, Y, h => by
    by_cases e : l = []
    · rw [e, qs_nil]; rfl
    · have h1 := drop_lt l e
      rw [qs_go l e, List.append_assoc, okq_piece l _ e, okq_qs k _ Y (by omega)]
theorem okq_quote (l : List UInt8) : okq (quoteL l) = true := by
  unfold quoteL
  rw [okq_low _ _ (by decide) (by decide), okq_qs _ l _ (Nat.le_refl _), okq_low _ _ (by decide) (by decide), okq_nil]

/-- does the piece at the front need nothing? -/
def need (l : List UInt8) : Bool := ctl (dec l).1 || decide ((dec l).1 = 34) || decide ((dec l).1 = 92) || brk l
def noneed (l : List UInt8) : Bool :=
  if l = [] then true else !need l && noneed (l.drop (dec l).2)
termination_by l.length
decreasing_by exact drop_lt l (by assumption)
theorem noneed_nil : noneed [] = true := by rw [noneed]; simp
theorem noneed_go (l : List UInt8) (h : l ≠ []) : noneed l = (!need l && noneed (l.drop (dec l).2)) := by rw [noneed, if_neg h]
theorem qpiece_same (l : List UInt8) (h : need l = false) : qpiece l = l.take (dec l).2 := by
  unfold need at h
  simp only [Bool.or_eq_false_iff, decide_eq_false_iff_not] at h
  obtain ⟨⟨⟨h1, h2⟩, h3⟩, h4⟩ := h
  unfold qpiece
  rw [if_neg (by rintro (e | e); exact h2 e; exact h3 e), if_neg (by intro e; rw [e] at h1; cases h1), if_neg (by rw [h1, h4]; decide)]
theorem qpiece_more (l : List UInt8) (hl : l ≠ []) : (dec l).2 ≤ (qpiece l).length ∧ (need l = true → (dec l).2 < (qpiece l).length) := by
  have hn := dec_le l hl
  have hp := dec_pos l
  by_cases hq : need l = true
  · have : (dec l).2 < (qpiece l).length := by
      unfold qpiece
      by_cases h1 : (dec l).1 = 34 ∨ (dec l).1 = 92
      · rw [if_pos h1]
        obtain ⟨_, _, _, _, hw⟩ := dec_low l hl (by omega)
        rw [hw]; simp
      · rw [if_neg h1]
        by_cases h2 : (dec l).1 = 10
        · rw [if_pos h2]
          obtain ⟨_, _, _, _, hw⟩ := dec_low l hl (by omega)
          rw [hw]; simp
        · rw [if_neg h2]
          by_cases h3 : (ctl (dec l).1 || brk l) = true
          · rw [if_pos h3, escs_len, List.length_take]; omega
          · exfalso
            have h3' := Bool.or_eq_false_iff.1 (Bool.eq_false_iff.2 h3)
            unfold need at hq
            rw [h3'.1, h3'.2, decide_eq_false (fun e => h1 (.inl e)), decide_eq_false (fun e => h1 (.inr e))] at hq
            cases hq
    exact ⟨by omega, fun _ => this⟩
  · have := qpiece_same l (Bool.eq_false_iff.2 hq)
    rw [this, List.length_take]
    exact ⟨by omega, fun h => absurd h hq⟩
theorem qs_more : ∀ (k : Nat) (l : List UInt8), l.length ≤ k → l.length ≤ (qs l).length ∧ (noneed l = true → qs l = l) ∧ (noneed l = false → l.length < (qs l).length)
  | 0, l, h => by
    have : l = [] := List.length_eq_zero_iff.1 (by omega)
    rw [this, qs_nil, noneed_nil]; simp
  | k + 1, l, h => by
    by_cases e : l = []
    · rw [e, qs_nil, noneed_nil]; simp
    · have h1 := drop_lt l e
      have h2 := qpiece_more l e
      have h3 := qs_more k (l.drop (dec l).2) (by omega)
      have hn := dec_le l e
      have hd : (l.drop (dec l).2).length = l.length - (dec l).2 := List.length_drop
      rw [qs_go l e, noneed_go l e, List.length_append]
      refine ⟨by omega, fun hx => ?_, fun hx => ?_⟩
      · have ha := (Bool.and_eq_true _ _ ▸ hx).1
        have hb := (Bool.and_eq_true _ _ ▸ hx).2
        rw [qpiece_same l (by simpa using ha), h3.2.1 hb, List.take_append_drop]
      · rcases Bool.and_eq_false_iff.1 hx with ha | hb
        · have := h2.2 (by simpa using ha); omega
        · have := h3.2.2 hb; omega
theorem quote_same (l : List UInt8) : decide (quoteL l = 34 :: (l ++ [34])) = noneed l := by
  have h := qs_more _ l (Nat.le_refl _)
  unfold quoteL
  cases hx : noneed l with
  | true => rw [h.2.1 hx]; simp
  | false =>
    refine decide_eq_false fun e => ?_
    have h2 := h.2.2 hx
    have h3 := congrArg List.length e
    simp only [List.length_cons, List.length_append] at h3
    omega
end Go.Proofs.YtggnglgehobglaaGreatDoor

/- The lines of a text, over bytes. -/
namespace Go.Proofs.YtggnglgehobglaaGreatDoor

/-- cut at the bytes 10; what is left open at the end is a line if it has a byte -/
def cutN : List UInt8 → List UInt8 → List (List UInt8)
  | cur, [] => if cur = [] then [] else [cur]
  | cur, c :: t => if c = 10 then cur :: cutN [] t else cutN (cur ++ [c]) t
def linesL (l : List UInt8) : List (List UInt8) := cutN [] l
def nums : Nat → List (List UInt8) → List (Nat × List UInt8)
  | _, [] => []
  | k, l :: r => (k, l) :: nums (k + 1) r
theorem cutN_run : ∀ (n cur r : List UInt8), (10 : UInt8) ∉ n → cutN cur (n ++ r) = cutN (cur ++ n) r
  | [], cur, r, _ => by simp
  | c :: t, cur, r, h => by
    have hc : c ≠ 10 := fun e => h (by simp [e])
    show cutN cur (c :: (t ++ r)) = _
    rw [cutN, if_neg hc, cutN_run t _ r (fun hm => h (by simp [hm])), List.append_assoc]; rfl
theorem nums_len : ∀ (ls : List (List UInt8)) (k : Nat), (nums k ls).length = ls.length
  | [], _ => rfl
  | _ :: r, k => by simp [nums, nums_len r]
theorem nums_get : ∀ (ls : List (List UInt8)) (k i : Nat), (nums k ls)[i]? = (ls[i]?).map fun l => (k + i, l)
  | [], k, i => by simp [nums]
  | l :: r, k, 0 => by simp [nums]
  | l :: r, k, i + 1 => by
    simp only [nums, List.getElem?_cons_succ]
    rw [nums_get r (k + 1) i, show k + 1 + i = k + (i + 1) by omega]
theorem dec_ten (l : List UInt8) (hl : l ≠ []) (h : (dec l).1 = 10) : (dec l).2 = 1 ∧ ∃ t, l = 10 :: t := by
  obtain ⟨c, t, rfl, hc, hw⟩ := dec_low l hl (by omega)
  refine ⟨hw, t, ?_⟩
  rw [h] at hc
  rw [show c = 10 from UInt8.toNat_inj.1 hc]
theorem piece_ten (l : List UInt8) (hl : l ≠ []) (h : (dec l).1 ≠ 10) : (10 : UInt8) ∉ l.take (dec l).2 := fun hm => by
  rcases piece_bytes l hl 10 hm with h1 | h1
  · exact h h1.1.symm
  · exact absurd h1.1 (by decide)

/-- the lines, with a byte 10 behind each -/
def backL (ls : List (List UInt8)) : List UInt8 := ls.flatMap fun l => l ++ [10]
theorem backL_snoc (ls : List (List UInt8)) (l : List UInt8) : backL (ls ++ [l]) = backL ls ++ (l ++ [10]) := by simp [backL]
theorem back_cut : ∀ (l cur : List UInt8), backL (cutN cur l) = cur ++ l ∨ (backL (cutN cur l) = cur ++ l ++ [10] ∧ cur ++ l ≠ [])
  | [], cur => by
    unfold cutN
    by_cases h : cur = []
    · left; rw [if_pos h, h]; rfl
    · right; rw [if_neg h]; simp [backL, h]
  | c :: t, cur => by
    rw [cutN]
    by_cases h : c = 10
    · rw [if_pos h]
      have e : backL (cur :: cutN [] t) = cur ++ [10] ++ backL (cutN [] t) := by simp [backL]
      subst h
      rcases back_cut t [] with h1 | h1
      · left; rw [e, h1]; simp
      · right; rw [e, h1.1]; simp
    · rw [if_neg h]
      rcases back_cut t (cur ++ [c]) with h1 | h1
      · left; rw [h1]; simp
      · right; rw [h1.1]; simp
theorem back_lines (l : List UInt8) : backL (linesL l) = l ∨ (backL (linesL l) = l ++ [10] ∧ l ≠ []) := by
  have := back_cut l []
  simpa [linesL] using this
theorem back_len (l : List UInt8) : (backL (linesL l)).length ≤ l.length + 1 := by
  rcases back_lines l with h | h
  · rw [h]; omega
  · rw [h.1]; simp
theorem cutN_len : ∀ (l cur : List UInt8), (cutN cur l).length ≤ l.length + 1
  | [], cur => by unfold cutN; split <;> simp
  | c :: t, cur => by
    rw [cutN]
    split
    · have := cutN_len t []; simp only [List.length_cons]; omega
    · have := cutN_len t (cur ++ [c]); simp only [List.length_cons]; omega
end Go.Proofs.YtggnglgehobglaaGreatDoor
