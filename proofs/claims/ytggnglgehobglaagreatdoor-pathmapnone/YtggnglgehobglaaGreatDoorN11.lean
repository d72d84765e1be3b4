import Derived.Test.YtggnglgehobglaaGreatDoorN10
/- What is quoted comes back as the words of a line: over bytes. -/
namespace Go.Proofs.YtggnglgehobglaaGreatDoor

/-- bytes that end no quoted word -/
theorem qEnd_raw : ∀ (p Y : List UInt8), (∀ c ∈ p, c ≠ 92 ∧ c ≠ 34) → qEnd (p ++ Y) = (qEnd Y).map (· + p.length)
  | [], Y, _ => by simp
  | c :: t, Y, h => by
    have h1 := h c (by simp)
    rw [qEnd_go (c :: t ++ Y) (by simp) (by simpa using h1.1) (by simpa using h1.2)]
    show (qEnd (t ++ Y)).map _ = _
    rw [qEnd_raw t Y (fun d hd => h d (by simp [hd])), Option.map_map]
    congr 1
theorem qEnd_two (c : UInt8) (Y : List UInt8) : qEnd (92 :: c :: Y) = (qEnd Y).map (· + 2) := by
  rw [qEnd_esc _ (by simp) rfl]; rfl
theorem hexd_no (x : Nat) (h : x < 16) : hexd x ≠ 92 ∧ hexd x ≠ 34 := by
  have : ∀ z : Fin 16, hexd z.val ≠ 92 ∧ hexd z.val ≠ 34 := by decide +kernel
  exact this ⟨x, h⟩
theorem qEnd_escs : ∀ (l Y : List UInt8), qEnd (escs l ++ Y) = (qEnd Y).map (· + (escs l).length)
  | [], Y => by simp [escs]
  | b :: t, Y => by
    have e : escs (b :: t) ++ Y = 92 :: 120 :: ([hexd (b.toNat / 16), hexd (b.toNat % 16)] ++ (escs t ++ Y)) := by simp [escs, esc]
    have hb := b.toNat_lt
    rw [e, qEnd_two, qEnd_raw _ _ (by
      intro c hc
      rcases List.mem_cons.1 hc with rfl | hc
      · exact hexd_no _ (by omega)
      · rcases List.mem_cons.1 hc with rfl | hc
        · exact hexd_no _ (by omega)
        · cases hc), qEnd_escs t Y, Option.map_map, Option.map_map]
    congr 1
/-- the bytes of the piece at the front -/
theorem piece_bytes (l : List UInt8) (hl : l ≠ []) (c : UInt8) (hc : c ∈ l.take (dec l).2) : (c.toNat = (dec l).1 ∧ (dec l).1 < 128) ∨ (128 ≤ c.toNat ∧ 128 ≤ (dec l).1) := by
  by_cases h : (dec l).1 < 128
  · left
    rw [dec_byte l hl _ rfl h] at hc
    obtain rfl : c = UInt8.ofNat (dec l).1 := by simpa using hc
    exact ⟨by rw [UInt8.toNat_ofNat']; omega, h⟩
  · right
    refine ⟨?_, by omega⟩
    obtain ⟨k, hk, rfl⟩ := List.mem_iff_getElem.1 hc
    rw [List.length_take] at hk
    rw [List.getElem_take]
    by_cases h0 : k = 0
    · subst h0
      match l, hl with
      | a :: t, _ => exact dec_lead a t (by omega)
    · have := dec_inner l k (by omega) (by omega)
      rw [List.getD_eq_getElem?_getD, List.getElem?_eq_getElem (by omega)] at this
      exact this
theorem qEnd_piece (l Y : List UInt8) (hl : l ≠ []) : qEnd (qpiece l ++ Y) = (qEnd Y).map (· + (qpiece l).length) := by
  unfold qpiece
  split
  · exact qEnd_two _ Y
  · rename_i h1
    split
    · exact qEnd_two _ Y
    · split
      · exact qEnd_escs _ Y
      · refine qEnd_raw _ Y fun c hc => ?_
        rcases piece_bytes l hl c hc with h | h
        · exact ⟨fun e => h1 (.inr (by rw [← h.1, e]; rfl)), fun e => h1 (.inl (by rw [← h.1, e]; rfl))⟩
        · exact ⟨fun e => by rw [e] at h; exact absurd h.1 (by decide), fun e => by rw [e] at h; exact absurd h.1 (by decide)⟩
theorem qEnd_qs : ∀ (k : Nat) (l Y : List UInt8), l.length ≤ k → qEnd (qs l ++ Y) = (qEnd Y).map (· + (qs l).length)
  | 0, l, Y, h => by
    have : l = [] := List.length_eq_zero_iff.1 (by omega)
    rw [this, qs_nil]; simp
  | k + 1, l, Y, h => by
    by_cases e : l = []
    · rw [e, qs_nil]; simp
    · have h1 := drop_lt l e
      rw [qs_go l e, List.append_assoc, qEnd_piece l _ e, qEnd_qs k _ Y (by omega), Option.map_map, List.length_append]
      congr 1
      funext x; simp; omega
theorem qEnd_quote (l X : List UInt8) : qEnd (qs l ++ 34 :: X) = some ((qs l).length + 1) := by
  rw [qEnd_qs _ l _ (Nat.le_refl _), qEnd_end _ (by simp) rfl]; simp; omega

/-- a plain word has no blank -/
theorem plainF_blank : ∀ (k : Nat) (l : List UInt8), l.length ≤ k → plainF l = true → ∀ c ∈ l, c ≠ 32
  | 0, l, h, _, c, hc => by
    have : l = [] := List.length_eq_zero_iff.1 (by omega)
    rw [this] at hc; cases hc
  | k + 1, l, h, hp, c, hc => by
    by_cases e : l = []
    · rw [e] at hc; cases hc
    · have h1 := drop_lt l e
      rw [plainF_go l e] at hp
      have hp1 := (Bool.and_eq_true _ _ ▸ hp).1
      have hp2 := (Bool.and_eq_true _ _ ▸ hp).2
      rw [← List.take_append_drop (dec l).2 l] at hc
      rcases List.mem_append.1 hc with hc | hc
      · intro ec
        subst ec
        rcases piece_bytes l e _ hc with h | h
        · have : (dec l).1 = 32 := h.1.symm
          simp [badw, this] at hp1
        · exact absurd h.1 (by decide)
      · exact plainF_blank k _ (by omega) hp2 c hc
theorem plainF_first (l : List UInt8) (h : l ≠ []) (hp : plainF l = true) : l.getD 0 0 ≠ 32 ∧ l.getD 0 0 ≠ 34 := by
  rw [plainF_go l h] at hp
  have hp1 := (Bool.and_eq_true _ _ ▸ hp).1
  match l, h with
  | a :: t, _ =>
    refine ⟨fun e => ?_, fun e => ?_⟩ <;>
    · simp at e; subst e
      rw [badw, dec_ascii _ t (by decide)] at hp1
      simp at hp1
theorem blk_word : ∀ (p X : List UInt8), (∀ c ∈ p, c ≠ 32) → endsL X = true → blk (p ++ X) = p.length
  | [], X, _, hX => by
    unfold endsL at hX
    by_cases e : X = []
    · rw [e]; rfl
    · rw [decide_eq_false e, Bool.false_or] at hX
      exact blk_end _ (of_decide_eq_true hX)
  | c :: t, X, h, hX => by
    rw [blk_go (c :: t ++ X) (by simp) (by simpa using h c (by simp))]
    show 1 + blk (t ++ X) = _
    rw [blk_word t X (fun d hd => h d (by simp [hd])) hX, List.length_cons]; omega

def wordL (s : List UInt8) : List UInt8 := if plainL s = true then s else quoteL s
theorem take_len_append (a b : List UInt8) : (a ++ b).take a.length = a := by simp
theorem drop_len_append (a b : List UInt8) : (a ++ b).drop a.length = b := by simp
theorem wordsL_quoted (s X : List UInt8) (p : Nat) (hX : endsL X = true) : wordsL (quoteL s ++ X) p = addW [s] (wordsL X (p + (quoteL s).length)) := by
  have hlen : (quoteL s).length = (qs s).length + 1 + 1 := by simp [quoteL]
  have hne : quoteL s ++ X ≠ [] := by simp [quoteL]
  have hd : (quoteL s ++ X).drop 1 = qs s ++ 34 :: X := by simp [quoteL]
  rw [wordsL_quote _ p ((qs s).length + 1) hne rfl (by rw [hd]; exact qEnd_quote s X), ← hlen, take_len_append, drop_len_append, unq_quote, hX]
  simp
theorem wordsL_word (s X : List UInt8) (p : Nat) (hX : endsL X = true) : wordsL (wordL s ++ X) p = addW [s] (wordsL X (p + (wordL s).length)) := by
  unfold wordL
  by_cases hs : plainL s = true
  · rw [if_pos hs]
    have hs' := hs
    unfold plainL at hs'
    have h3 := (Bool.and_eq_true _ _ ▸ hs').2
    have h12 := (Bool.and_eq_true _ _ ▸ hs').1
    have h1 := of_decide_eq_true (Bool.and_eq_true _ _ ▸ h12).1
    have h2 := of_decide_eq_true (Bool.and_eq_true _ _ ▸ h12).2
    have hf := plainF_first s h1 h3
    have hb := plainF_blank _ s (Nat.le_refl _) h3
    match s, h1 with
    | a :: t, _ =>
      have hk : 1 + blk ((a :: t ++ X).drop 1) = (a :: t).length := by
        show 1 + blk (t ++ X) = _
        rw [blk_word t X (fun c hc => hb c (by simp [hc])) hX, List.length_cons]; omega
      rw [wordsL_plain _ p (by simp) (by simpa using h2) (by simpa using hf.1) (by simpa using hf.2), hk, take_len_append, drop_len_append, if_pos hs]
  · rw [if_neg hs]; exact wordsL_quoted s X p hX

/-- the words behind the first of a line -/
def tailL (ws : List (List UInt8)) : List UInt8 := ws.flatMap fun w => 32 :: wordL w
def lineL : List (List UInt8) → List UInt8
  | [] => []
  | w :: r => wordL w ++ tailL r
theorem tailL_ends (ws : List (List UInt8)) : endsL (tailL ws) = true := by
  cases ws with
  | nil => rfl
  | cons w r => simp [tailL, endsL]
theorem wordsL_tail : ∀ (ws : List (List UInt8)) (p : Nat), wordsL (tailL ws) p = .ok ws
  | [], p => wordsL_nil p
  | w :: r, p => by
    have e : tailL (w :: r) = 32 :: (wordL w ++ tailL r) := by simp [tailL]
    rw [e, wordsL_blank _ _ (by simp) rfl]
    show wordsL (wordL w ++ tailL r) (p + 1) = _
    rw [wordsL_word w _ _ (tailL_ends r), wordsL_tail r]; rfl
theorem wordsL_line (ws : List (List UInt8)) : wordsL (lineL ws) 0 = .ok ws := by
  cases ws with
  | nil => exact wordsL_nil 0
  | cons w r =>
    show wordsL (wordL w ++ tailL r) 0 = _
    rw [wordsL_word w _ _ (tailL_ends r), wordsL_tail r]; rfl
theorem lineL_snoc (ws : List (List UInt8)) (w : List UInt8) : lineL (ws ++ [w]) = lineL ws ++ (if ws = [] then [] else [32]) ++ wordL w := by
  cases ws with
  | nil => simp [lineL, tailL]
  | cons v r => simp [lineL, tailL]
theorem wordL_len (s : List UInt8) : (wordL s).length ≤ 4 * s.length + 2 := by
  unfold wordL
  split
  · omega
  · have := qs_len _ s (Nat.le_refl _)
    simp [quoteL]; omega
theorem lineL_len (ws : List (List UInt8)) : (lineL ws).length ≤ 4 * (ws.map List.length).sum + 3 * ws.length := by
  have ht : ∀ r : List (List UInt8), (tailL r).length ≤ 4 * (r.map List.length).sum + 3 * r.length := by
    intro r
    induction r with
    | nil => simp [tailL]
    | cons v t ih =>
      have := wordL_len v
      have e : tailL (v :: t) = 32 :: (wordL v ++ tailL t) := by simp [tailL]
      rw [e, List.length_cons, List.length_append, List.map_cons, List.sum_cons, List.length_cons]; omega
  cases ws with
  | nil => simp [lineL]
  | cons w r =>
    have := wordL_len w
    have h2 := ht r
    show (wordL w ++ tailL r).length ≤ _
    rw [List.length_append, List.map_cons, List.sum_cons, List.length_cons]; omega
end Go.Proofs.YtggnglgehobglaaGreatDoor

/- What is quoted is right: over bytes. -/
namespace Go.Proofs.YtggnglgehobglaaGreatDoor

/-- is there neither a control nor a broken byte? -/
def okq (l : List UInt8) : Bool :=
  if l = [] then true else !(ctl (dec l).1 || brk l) && okq (l.drop (dec l).2)
termination_by l.length
decreasing_by exact drop_lt l (by assumption)
theorem okq_nil : okq [] = true := by rw [okq]; simp
theorem okq_go (l : List UInt8) (h : l ≠ []) : okq l = (!(ctl (dec l).1 || brk l) && okq (l.drop (dec l).2)) := by rw [okq, if_neg h]
theorem okq_low (c : UInt8) (Y : List UInt8) (h1 : 32 ≤ c.toNat) (h2 : c.toNat < 127) : okq (c :: Y) = okq Y := by
  rw [okq_go _ (by simp), brk, dec_ascii c Y (by omega)]
  have e1 : ctl c.toNat = false := by unfold ctl; simp; omega
  have e2 : decide (c.toNat = 65533) = false := decide_eq_false (by omega)
  simp only [e1, e2]; simp
theorem okq_escs : ∀ (l Y : List UInt8), okq (escs l ++ Y) = okq Y
  | [], Y => rfl
  | b :: t, Y => by
    have e : escs (b :: t) ++ Y = 92 :: 120 :: hexd (b.toNat / 16) :: hexd (b.toNat % 16) :: (escs t ++ Y) := by simp [escs, esc]
    have hb := b.toNat_lt
    have h1 := hexd_print (b.toNat / 16) (by omega)
    have h2 := hexd_print (b.toNat % 16) (by omega)
    rw [e, okq_low _ _ (by decide) (by decide), okq_low _ _ (by decide) (by decide), okq_low _ _ (by omega) (by omega), okq_low _ _ (by omega) (by omega), okq_escs t Y]
theorem okq_piece (l Y : List UInt8) (hl : l ≠ []) : okq (qpiece l ++ Y) = okq Y := by
  unfold qpiece
  by_cases h1 : (dec l).1 = 34 ∨ (dec l).1 = 92
  · rw [if_pos h1]
    rcases h1 with h1 | h1 <;> rw [h1] <;>
    · show okq (92 :: _ :: Y) = _
      rw [okq_low _ _ (by decide) (by decide), okq_low _ _ (by decide) (by decide)]
  · rw [if_neg h1]
    by_cases h2 : (dec l).1 = 10
    · rw [if_pos h2]
      show okq (92 :: 110 :: Y) = _
      rw [okq_low _ _ (by decide) (by decide), okq_low _ _ (by decide) (by decide)]
    · rw [if_neg h2]
      by_cases h3 : (ctl (dec l).1 || brk l) = true
      · rw [if_pos h3]; exact okq_escs _ Y
      · rw [if_neg h3]
        have h3' : (ctl (dec l).1 || brk l) = false := Bool.eq_false_iff.2 h3
        have hb : brk l = false := (Bool.or_eq_false_iff.1 h3').2
        have hd := dec_form' l hl hb Y
        have hn := dec_le l hl
        have hp := dec_pos l
        have hne : l.take (dec l).2 ++ Y ≠ [] := by
          intro e
          have := congrArg List.length e
          rw [List.length_append, List.length_take, List.length_nil] at this; omega
        have hb' : brk (l.take (dec l).2 ++ Y) = false := by rw [brk_iff _ hne, hd, ← brk_iff l hl]; exact hb
        rw [okq_go _ hne, hb', hd, (Bool.or_eq_false_iff.1 h3').1, List.drop_append_of_le_length (by rw [List.length_take]; omega), List.drop_take]
        simp
theorem okq_qs : ∀ (k : Nat) (l Y : List UInt8), l.length ≤ k → okq (qs l ++ Y) = okq Y
  | 0, l, Y, h => by
    have : l = [] := List.length_eq_zero_iff.1 (by omega)
    rw [this, qs_nil]; rfl
  | k + 1, l, Y, h => by
    by_cases e : l = []
    · rw [e, qs_nil]; rfl
    · have h1 := drop_lt l e
      rw [qs_go l e, List.append_assoc, okq_piece l _ e, okq_qs k _ Y (by omega)]
theorem okq_quote (l : List UInt8) : okq (quoteL l) = true := by
  unfold quoteL
  rw [okq_low _ _ (by decide) (by decide), okq_qs _ l _ (Nat.le_refl _), okq_low _ _ (by decide) (by decide), okq_nil]

/-- does the piece at the front need nothing? -/
def need (l : List UInt8) : Bool := ctl (dec l).1 || decide ((dec l).1 = 34) || decide ((dec l).1 = 92) || brk l
def noneed (l : List UInt8) : Bool :=
  if l = [] then true else !need l && noneed (l.drop (dec l).2)
termination_by l.length
decreasing_by exact drop_lt l (by assumption)
theorem noneed_nil : noneed [] = true := by rw [noneed]; simp
theorem noneed_go (l : List UInt8) (h : l ≠ []) : noneed l = (!need l && noneed (l.drop (dec l).2)) := by rw [noneed, if_neg h]
theorem qpiece_same (l : List UInt8) (h : need l = false) : qpiece l = l.take (dec l).2 := by
  unfold need at h
  simp only [Bool.or_eq_false_iff, decide_eq_false_iff_not] at h
  obtain ⟨⟨⟨h1, h2⟩, h3⟩, h4⟩ := h
  unfold qpiece
  rw [if_neg (by rintro (e | e); exact h2 e; exact h3 e), if_neg (by intro e; rw [e] at h1; cases h1), if_neg (by rw [h1, h4]; decide)]
theorem qpiece_more (l : List UInt8) (hl : l ≠ []) : (dec l).2 ≤ (qpiece l).length ∧ (need l = true → (dec l).2 < (qpiece l).length) := by
  have hn := dec_le l hl
  have hp := dec_pos l
  by_cases hq : need l = true
  · have : (dec l).2 < (qpiece l).length := by
      unfold qpiece
      by_cases h1 : (dec l).1 = 34 ∨ (dec l).1 = 92
      · rw [if_pos h1]
        obtain ⟨_, _, _, _, hw⟩ := dec_low l hl (by omega)
        rw [hw]; simp
      · rw [if_neg h1]
        by_cases h2 : (dec l).1 = 10
        · rw [if_pos h2]
          obtain ⟨_, _, _, _, hw⟩ := dec_low l hl (by omega)
          rw [hw]; simp
        · rw [if_neg h2]
          by_cases h3 : (ctl (dec l).1 || brk l) = true
          · rw [if_pos h3, escs_len, List.length_take]; omega
          · exfalso
            have h3' := Bool.or_eq_false_iff.1 (Bool.eq_false_iff.2 h3)
            unfold need at hq
            rw [h3'.1, h3'.2, decide_eq_false (fun e => h1 (.inl e)), decide_eq_false (fun e => h1 (.inr e))] at hq
            cases hq
    exact ⟨by omega, fun _ => this⟩
  · have := qpiece_same l (Bool.eq_false_iff.2 hq)
    rw [this, List.length_take]
    exact ⟨by omega, fun h => absurd h hq⟩
theorem qs_more : ∀ (k : Nat) (l : List UInt8), l.length ≤ k → l.length ≤ (qs l).length ∧ (noneed l = true → qs l = l) ∧ (noneed l = false → l.length < (qs l).length)
  | 0, l, h => by
    have : l = [] := List.length_eq_zero_iff.1 (by omega)
    rw [this, qs_nil, noneed_nil]; simp
  | k + 1, l, h => by
    by_cases e : l = []
    · rw [e, qs_nil, noneed_nil]; simp
    · have h1 := drop_lt l e
      have h2 := qpiece_more l e
      have h3 := qs_more k (l.drop (dec l).2) (by omega)
      have hn := dec_le l e
      have hd : (l.drop (dec l).2).length = l.length - (dec l).2 := List.length_drop
      rw [qs_go l e, noneed_go l e, List.length_append]
      refine ⟨by omega, fun hx => ?_, fun hx => ?_⟩
      · have ha := (Bool.and_eq_true _ _ ▸ hx).1
        have hb := (Bool.and_eq_true _ _ ▸ hx).2
        rw [qpiece_same l (by simpa using ha), h3.2.1 hb, List.take_append_drop]
      · rcases Bool.and_eq_false_iff.1 hx with ha | hb
        · have := h2.2 (by simpa using ha); omega
        · have := h3.2.2 hb; omega
theorem quote_same (l : List UInt8) : decide (quoteL l = 34 :: (l ++ [34])) = noneed l := by
  have h := qs_more _ l (Nat.le_refl _)
  unfold quoteL
  cases hx : noneed l with
  | true => rw [h.2.1 hx]; simp
  | false =>
    refine decide_eq_false fun e => ?_
    have h2 := h.2.2 hx
    have h3 := congrArg List.length e
    simp only [List.length_cons, List.length_append] at h3
    omega
end Go.Proofs.YtggnglgehobglaaGreatDoor

/- The lines of a text, over bytes. -/
namespace Go.Proofs.YtggnglgehobglaaGreatDoor

/-- cut at the bytes 10; what is left open at the end is a line if it has a byte -/
def cutN : List UInt8 → List UInt8 → List (List UInt8)
  | cur, [] => if cur = [] then [] else [cur]
  | cur, c :: t => if c = 10 then cur :: cutN [] t else cutN (cur ++ [c]) t
def linesL (l : List UInt8) : List (List UInt8) := cutN [] l
def nums : Nat → List (List UInt8) → List (Nat × List UInt8)
  | _, [] => []
  | k, l :: r => (k, l) :: nums (k + 1) r
theorem cutN_run : ∀ (n cur r : List UInt8), (10 : UInt8) ∉ n → cutN cur (n ++ r) = cutN (cur ++ n) r
  | [], cur, r, _ => by simp
  | c :: t, cur, r, h => by
    have hc : c ≠ 10 := fun e => h (by simp [e])
    show cutN cur (c :: (t ++ r)) = _
    rw [cutN, if_neg hc, cutN_run t _ r (fun hm => h (by simp [hm])), List.append_assoc]; rfl
theorem nums_len : ∀ (ls : List (List UInt8)) (k : Nat), (nums k ls).length = ls.length
  | [], _ => rfl
  | _ :: r, k => by simp [nums, nums_len r]
theorem nums_get : ∀ (ls : List (List UInt8)) (k i : Nat), (nums k ls)[i]? = (ls[i]?).map fun l => (k + i, l)
  | [], k, i => by simp [nums]
  | l :: r, k, 0 => by simp [nums]
  | l :: r, k, i + 1 => by
    simp only [nums, List.getElem?_cons_succ]
    rw [nums_get r (k + 1) i, show k + 1 + i = k + (i + 1) by omega]
theorem dec_ten (l : List UInt8) (hl : l ≠ []) (h : (dec l).1 = 10) : (dec l).2 = 1 ∧ ∃ t, l = 10 :: t := by
  obtain ⟨c, t, rfl, hc, hw⟩ := dec_low l hl (by omega)
  refine ⟨hw, t, ?_⟩
  rw [h] at hc
  rw [show c = 10 from UInt8.toNat_inj.1 hc]
theorem piece_ten (l : List UInt8) (hl : l ≠ []) (h : (dec l).1 ≠ 10) : (10 : UInt8) ∉ l.take (dec l).2 := fun hm => by
  rcases piece_bytes l hl 10 hm with h1 | h1
  · exact h h1.1.symm
  · exact absurd h1.1 (by decide)

/-- the lines, with a byte 10 behind each -/
def backL (ls : List (List UInt8)) : List UInt8 := ls.flatMap fun l => l ++ [10]
theorem backL_snoc (ls : List (List UInt8)) (l : List UInt8) : backL (ls ++ [l]) = backL ls ++ (l ++ [10]) := by simp [backL]
theorem back_cut : ∀ (l cur : List UInt8), backL (cutN cur l) = cur ++ l ∨ (backL (cutN cur l) = cur ++ l ++ [10] ∧ cur ++ l ≠ [])
  | [], cur => by
    unfold cutN
    by_cases h : cur = []
    · left; rw [if_pos h, h]; rfl
    · right; rw [if_neg h]; simp [backL, h]
  | c :: t, cur => by
    rw [cutN]
    by_cases h : c = 10
    · rw [if_pos h]
      have e : backL (cur :: cutN [] t) = cur ++ [10] ++ backL (cutN [] t) := by simp [backL]
      subst h
      rcases back_cut t [] with h1 | h1
      · left; rw [e, h1]; simp
      · right; rw [e, h1.1]; simp
    · rw [if_neg h]
      rcases back_cut t (cur ++ [c]) with h1 | h1
      · left; rw [h1]; simp
      · right; rw [h1.1]; simp
theorem back_lines (l : List UInt8) : backL (linesL l) = l ∨ (backL (linesL l) = l ++ [10] ∧ l ≠ []) := by
  have := back_cut l []
  simpa [linesL] using this
theorem back_len (l : List UInt8) : (backL (linesL l)).length ≤ l.length + 1 := by
  rcases back_lines l with h | h
  · rw [h]; omega
  · rw [h.1]; simp
theorem cutN_len : ∀ (l cur : List UInt8), (cutN cur l).length ≤ l.length + 1
  | [], cur => by unfold cutN; split <;> simp
  | c :: t, cur => by
    rw [cutN]
    split
    · have := cutN_len t []; simp only [List.length_cons]; omega
    · have := cutN_len t (cur ++ [c]); simp only [List.length_cons]; omega
end Go.Proofs.YtggnglgehobglaaGreatDoor
