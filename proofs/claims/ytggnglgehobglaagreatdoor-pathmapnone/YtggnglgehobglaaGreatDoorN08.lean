import Derived.Test.YtggnglgehobglaaGreatDoorN06
/- Quoted texts and words as rows of bytes: what the document says of them. Of no program. -/
namespace Go.Proofs.YtggnglgehobglaaGreatDoor

theorem dec2 (a b : UInt8) (t : List UInt8) (h1 : a.toNat / 32 = 6) (h2 : b.toNat / 64 = 2) (h3 : 128 ≤ a.toNat % 32 * 64 + b.toNat % 64) : dec (a :: b :: t) = (a.toNat % 32 * 64 + b.toNat % 64, 2) := by
  rw [dec_eq]
  simp only [List.getD_cons_zero, List.getD_cons_succ, List.length_cons]
  rw [if_neg (by omega), if_pos ⟨h1, by omega, h2⟩, if_pos h3]
theorem dec3 (a b c : UInt8) (t : List UInt8) (h1 : a.toNat / 16 = 14) (h2 : b.toNat / 64 = 2) (h3 : c.toNat / 64 = 2) (h4 : 2048 ≤ a.toNat % 16 * 4096 + b.toNat % 64 * 64 + c.toNat % 64) (h5 : Utf8.valid (a.toNat % 16 * 4096 + b.toNat % 64 * 64 + c.toNat % 64 : Nat) = true) :
    dec (a :: b :: c :: t) = (a.toNat % 16 * 4096 + b.toNat % 64 * 64 + c.toNat % 64, 3) := by
  rw [dec_eq]
  simp only [List.getD_cons_zero, List.getD_cons_succ, List.length_cons]
  rw [if_neg (by omega), if_neg (by omega), if_pos ⟨h1, ⟨by omega, h2⟩, by omega, h3⟩, if_pos ⟨h4, h5⟩]
theorem dec4 (a b c d : UInt8) (t : List UInt8) (h1 : a.toNat / 8 = 30) (h2 : b.toNat / 64 = 2) (h3 : c.toNat / 64 = 2) (h3' : d.toNat / 64 = 2) (h4 : 65536 ≤ a.toNat % 8 * 262144 + b.toNat % 64 * 4096 + c.toNat % 64 * 64 + d.toNat % 64) (h5 : Utf8.valid (a.toNat % 8 * 262144 + b.toNat % 64 * 4096 + c.toNat % 64 * 64 + d.toNat % 64 : Nat) = true) :
    dec (a :: b :: c :: d :: t) = (a.toNat % 8 * 262144 + b.toNat % 64 * 4096 + c.toNat % 64 * 64 + d.toNat % 64, 4) := by
  rw [dec_eq]
  simp only [List.getD_cons_zero, List.getD_cons_succ, List.length_cons]
  rw [if_neg (by omega), if_neg (by omega), if_neg (by omega), if_pos ⟨h1, ⟨by omega, h2⟩, ⟨by omega, h3⟩, by omega, h3'⟩, if_pos ⟨h4, h5⟩]

theorem fffd_of (a b c : UInt8) (t : List UInt8) (h1 : a.toNat / 16 = 14) (h2 : b.toNat / 64 = 2) (h3 : c.toNat / 64 = 2) (e : a.toNat % 16 * 4096 + b.toNat % 64 * 64 + c.toNat % 64 = 65533) : fffd <+: a :: b :: c :: t := by
  have e0 : a = 239 := UInt8.toNat_inj.1 (by show _ = 239; omega)
  have e1 : b = 191 := UInt8.toNat_inj.1 (by show _ = 191; omega)
  have e2 : c = 189 := UInt8.toNat_inj.1 (by show _ = 189; omega)
  subst e0; subst e1; subst e2
  exact ⟨t, rfl⟩
/-- a form stays what it is, whatever follows; or it is a broken byte -/
theorem dec_form (l : List UInt8) (hl : l ≠ []) : ((∀ m, dec (l.take (dec l).2 ++ m) = dec l) ∧ ((dec l).1 = 65533 → fffd <+: l)) ∨ (dec l = (65533, 1) ∧ 128 ≤ (l.getD 0 0).toNat) := by
  match l, hl with
  | [a], _ =>
    by_cases h : a.toNat < 128
    · left; rw [dec_ascii a [] h]; exact ⟨fun m => dec_ascii a m h, fun e => by simp only at e; omega⟩
    · right; refine ⟨?_, by simpa using h⟩
      rw [dec_eq]; simp [h]
  | [a, b], _ =>
    by_cases h : a.toNat < 128
    · left; rw [dec_ascii a [b] h]; exact ⟨fun m => dec_ascii a m h, fun e => by simp only at e; omega⟩
    · by_cases h2 : a.toNat / 32 = 6 ∧ b.toNat / 64 = 2 ∧ 128 ≤ a.toNat % 32 * 64 + b.toNat % 64
      · left; rw [dec2 a b [] h2.1 h2.2.1 h2.2.2]; exact ⟨fun m => dec2 a b m h2.1 h2.2.1 h2.2.2, fun e => by simp only at e; omega⟩
      · right; refine ⟨?_, by simpa using h⟩
        rw [dec_eq]
        simp only [List.getD_cons_zero, List.getD_cons_succ, List.length_cons, List.length_nil]
        rw [if_neg h]
        by_cases h3 : a.toNat / 32 = 6 ∧ 1 < 0 + 1 + 1 ∧ b.toNat / 64 = 2
        · rw [if_pos h3, if_neg (fun h4 => h2 ⟨h3.1, h3.2.2, h4⟩)]
        · rw [if_neg h3, if_neg (by omega), if_neg (by omega)]
  | [a, b, c], _ =>
    by_cases h : a.toNat < 128
    · left; rw [dec_ascii a [b, c] h]; exact ⟨fun m => dec_ascii a m h, fun e => by simp only at e; omega⟩
    · by_cases h2 : a.toNat / 32 = 6 ∧ b.toNat / 64 = 2 ∧ 128 ≤ a.toNat % 32 * 64 + b.toNat % 64
      · left; rw [dec2 a b [c] h2.1 h2.2.1 h2.2.2]; exact ⟨fun m => dec2 a b m h2.1 h2.2.1 h2.2.2, fun e => by simp only at e; omega⟩
      · by_cases h5 : a.toNat / 16 = 14 ∧ b.toNat / 64 = 2 ∧ c.toNat / 64 = 2 ∧ 2048 ≤ a.toNat % 16 * 4096 + b.toNat % 64 * 64 + c.toNat % 64 ∧ Utf8.valid (a.toNat % 16 * 4096 + b.toNat % 64 * 64 + c.toNat % 64 : Nat) = true
        · left; rw [dec3 a b c [] h5.1 h5.2.1 h5.2.2.1 h5.2.2.2.1 h5.2.2.2.2]; exact ⟨fun m => dec3 a b c m h5.1 h5.2.1 h5.2.2.1 h5.2.2.2.1 h5.2.2.2.2, fun e => fffd_of a b c _ h5.1 h5.2.1 h5.2.2.1 e⟩
        · right; refine ⟨?_, by simpa using h⟩
          rw [dec_eq]
          simp only [List.getD_cons_zero, List.getD_cons_succ, List.length_cons, List.length_nil]
          rw [if_neg h]
          by_cases h3 : a.toNat / 32 = 6 ∧ 1 < 0 + 1 + 1 + 1 ∧ b.toNat / 64 = 2
          · rw [if_pos h3, if_neg (fun h4 => h2 ⟨h3.1, h3.2.2, h4⟩)]
          · rw [if_neg h3]
            by_cases h6 : a.toNat / 16 = 14 ∧ (1 < 0 + 1 + 1 + 1 ∧ b.toNat / 64 = 2) ∧ (2 < 0 + 1 + 1 + 1 ∧ c.toNat / 64 = 2)
            · rw [if_pos h6, if_neg (fun h4 => h5 ⟨h6.1, h6.2.1.2, h6.2.2.2, h4⟩)]
            · rw [if_neg h6, if_neg (by omega)]
  | a :: b :: c :: d :: t, _ =>
    by_cases h : a.toNat < 128
    · left; rw [dec_ascii a _ h]; exact ⟨fun m => dec_ascii a m h, fun e => by simp only at e; omega⟩
    · by_cases h2 : a.toNat / 32 = 6 ∧ b.toNat / 64 = 2 ∧ 128 ≤ a.toNat % 32 * 64 + b.toNat % 64
      · left; rw [dec2 a b _ h2.1 h2.2.1 h2.2.2]; exact ⟨fun m => dec2 a b m h2.1 h2.2.1 h2.2.2, fun e => by simp only at e; omega⟩
      · by_cases h5 : a.toNat / 16 = 14 ∧ b.toNat / 64 = 2 ∧ c.toNat / 64 = 2 ∧ 2048 ≤ a.toNat % 16 * 4096 + b.toNat % 64 * 64 + c.toNat % 64 ∧ Utf8.valid (a.toNat % 16 * 4096 + b.toNat % 64 * 64 + c.toNat % 64 : Nat) = true
        · left; rw [dec3 a b c _ h5.1 h5.2.1 h5.2.2.1 h5.2.2.2.1 h5.2.2.2.2]; exact ⟨fun m => dec3 a b c m h5.1 h5.2.1 h5.2.2.1 h5.2.2.2.1 h5.2.2.2.2, fun e => fffd_of a b c _ h5.1 h5.2.1 h5.2.2.1 e⟩
        · by_cases h7 : a.toNat / 8 = 30 ∧ b.toNat / 64 = 2 ∧ c.toNat / 64 = 2 ∧ d.toNat / 64 = 2 ∧ 65536 ≤ a.toNat % 8 * 262144 + b.toNat % 64 * 4096 + c.toNat % 64 * 64 + d.toNat % 64 ∧ Utf8.valid (a.toNat % 8 * 262144 + b.toNat % 64 * 4096 + c.toNat % 64 * 64 + d.toNat % 64 : Nat) = true
          · left; rw [dec4 a b c d _ h7.1 h7.2.1 h7.2.2.1 h7.2.2.2.1 h7.2.2.2.2.1 h7.2.2.2.2.2]; exact ⟨fun m => dec4 a b c d m h7.1 h7.2.1 h7.2.2.1 h7.2.2.2.1 h7.2.2.2.2.1 h7.2.2.2.2.2, fun e => by simp only at e; omega⟩
          · right; refine ⟨?_, by simpa using h⟩
            rw [dec_eq]
            simp only [List.getD_cons_zero, List.getD_cons_succ, List.length_cons]
            rw [if_neg h]
            by_cases h3 : a.toNat / 32 = 6 ∧ 1 < t.length + 1 + 1 + 1 + 1 ∧ b.toNat / 64 = 2
            · rw [if_pos h3, if_neg (fun h4 => h2 ⟨h3.1, h3.2.2, h4⟩)]
            · rw [if_neg h3]
              by_cases h6 : a.toNat / 16 = 14 ∧ (1 < t.length + 1 + 1 + 1 + 1 ∧ b.toNat / 64 = 2) ∧ (2 < t.length + 1 + 1 + 1 + 1 ∧ c.toNat / 64 = 2)
              · rw [if_pos h6, if_neg (fun h4 => h5 ⟨h6.1, h6.2.1.2, h6.2.2.2, h4⟩)]
              · rw [if_neg h6]
                by_cases h8 : a.toNat / 8 = 30 ∧ (1 < t.length + 1 + 1 + 1 + 1 ∧ b.toNat / 64 = 2) ∧ (2 < t.length + 1 + 1 + 1 + 1 ∧ c.toNat / 64 = 2) ∧ (3 < t.length + 1 + 1 + 1 + 1 ∧ d.toNat / 64 = 2)
                · rw [if_pos h8, if_neg (fun h4 => h7 ⟨h8.1, h8.2.1.2, h8.2.2.1.2, h8.2.2.2.2, h4⟩)]
                · rw [if_neg h8]

theorem dec_fffd (t : List UInt8) : dec (fffd ++ t) = (65533, 3) := dec3 239 191 189 t (by decide) (by decide) (by decide) (by decide) (by decide)
/-- a broken byte is told by its width -/
theorem brk_iff (l : List UInt8) (hl : l ≠ []) : brk l = (decide ((dec l).1 = 65533) && decide ((dec l).2 = 1)) := by
  unfold brk
  by_cases h : (dec l).1 = 65533
  · rw [decide_eq_true h, Bool.true_and, Bool.true_and]
    by_cases hp : fffd.isPrefixOf l = true
    · obtain ⟨t, rfl⟩ := List.isPrefixOf_iff_prefix.1 hp
      rw [dec_fffd, hp]; rfl
    · rw [Bool.eq_false_iff.2 hp]
      rcases dec_form l hl with hf | hb
      · exact absurd (List.isPrefixOf_iff_prefix.2 (hf.2 h)) hp
      · rw [hb.1]; rfl
  · simp [h]
theorem dec_form' (l : List UInt8) (hl : l ≠ []) (hb : brk l = false) (m : List UInt8) : dec (l.take (dec l).2 ++ m) = dec l := by
  rcases dec_form l hl with hf | h
  · exact hf.1 m
  · rw [brk_iff l hl, h.1] at hb; cases hb
/-- a rune below 128 is its byte -/
theorem dec_low (l : List UInt8) (hl : l ≠ []) (h : (dec l).1 < 128) : ∃ c t, l = c :: t ∧ c.toNat = (dec l).1 ∧ (dec l).2 = 1 := by
  match l, hl with
  | c :: t, _ =>
    by_cases hc : c.toNat < 128
    · rw [dec_ascii c t hc]; exact ⟨c, t, rfl, rfl, rfl⟩
    · have := dec_high c t (by omega); omega
theorem dec_lead (c : UInt8) (t : List UInt8) (h : 128 ≤ (dec (c :: t)).1) : 128 ≤ c.toNat := by
  by_cases hc : c.toNat < 128
  · rw [dec_ascii c t hc] at h; exact h
  · omega
theorem drop_len (l : List UInt8) (h : ¬ l = []) : (l.drop (dec l).2).length < l.length := drop_lt l h

/-! quoted -/
def ctl (r : Nat) : Bool := decide (r < 32) || (decide (127 ≤ r) && decide (r ≤ 159))
def hexd (x : Nat) : UInt8 := if x < 10 then UInt8.ofNat (48 + x) else UInt8.ofNat (87 + x)
def esc (b : UInt8) : List UInt8 := [92, 120, hexd (b.toNat / 16), hexd (b.toNat % 16)]
def escs (l : List UInt8) : List UInt8 := l.flatMap esc
/-- the piece at the front, quoted -/
def qpiece (l : List UInt8) : List UInt8 :=
  if (dec l).1 = 34 ∨ (dec l).1 = 92 then [92, UInt8.ofNat (dec l).1]
  else if (dec l).1 = 10 then [92, 110]
  else if ctl (dec l).1 || brk l then escs (l.take (dec l).2)
  else l.take (dec l).2
def qs (l : List UInt8) : List UInt8 :=
  if l = [] then [] else qpiece l ++ qs (l.drop (dec l).2)
termination_by l.length
decreasing_by exact drop_lt l (by assumption)
theorem qs_nil : qs [] = [] := by rw [qs]; simp
theorem qs_go (l : List UInt8) (h : l ≠ []) : qs l = qpiece l ++ qs (l.drop (dec l).2) := by rw [qs, if_neg h]
def quoteL (l : List UInt8) : List UInt8 := 34 :: (qs l ++ [34])

/-- may the rune at the front not stand in a plain word? -/
def badw (l : List UInt8) : Bool := decide ((dec l).1 = 32) || decide ((dec l).1 = 34) || decide ((dec l).1 = 92) || ctl (dec l).1 || brk l
def plainF (l : List UInt8) : Bool :=
  if l = [] then true else !badw l && plainF (l.drop (dec l).2)
termination_by l.length
decreasing_by exact drop_lt l (by assumption)
theorem plainF_nil : plainF [] = true := by rw [plainF]; simp
theorem plainF_go (l : List UInt8) (h : l ≠ []) : plainF l = (!badw l && plainF (l.drop (dec l).2)) := by rw [plainF, if_neg h]
def plainL (l : List UInt8) : Bool := decide (l ≠ []) && decide (l.getD 0 0 ≠ 35) && plainF l

theorem escs_len (l : List UInt8) : (escs l).length = 4 * l.length := by
  induction l with
  | nil => rfl
  | cons a t ih => simp only [escs, List.flatMap_cons, List.length_append, List.length_cons] at ih ⊢; rw [ih]; simp [esc]; omega
theorem qpiece_len (l : List UInt8) (hl : l ≠ []) : (qpiece l).length ≤ 4 * (dec l).2 := by
  have := dec_pos l
  have h2 := dec_le l hl
  unfold qpiece
  split
  · simp; omega
  · split
    · simp; omega
    · split
      · rw [escs_len, List.length_take]; omega
      · rw [List.length_take]; omega
theorem qs_len : ∀ (k : Nat) (l : List UInt8), l.length ≤ k → (qs l).length ≤ 4 * l.length
  | 0, l, h => by
    have : l = [] := List.length_eq_zero_iff.1 (by omega)
    rw [this, qs_nil]; simp
  | k + 1, l, h => by
    by_cases e : l = []
    · rw [e, qs_nil]; simp
    · have h1 := drop_lt l e
      have h2 := qs_len k (l.drop (dec l).2) (by omega)
      have h3 := qpiece_len l e
      have h4 := dec_le l e
      rw [qs_go l e, List.length_append]
      rw [List.length_drop] at h2
      omega
end Go.Proofs.YtggnglgehobglaaGreatDoor
