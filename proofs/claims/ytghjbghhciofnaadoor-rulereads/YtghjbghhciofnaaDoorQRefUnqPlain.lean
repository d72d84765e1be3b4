/- The document's Unquote, over bytes: it is the same. -/
import Derived.Test.YtghjbghhciofnaaDoorQBackPlain
namespace Go.Proofs.YtghjbghhciofnaaDoor

def valN (c : UInt8) : Nat := if 48 ≤ c.toNat ∧ c.toNat ≤ 57 then c.toNat - 48 else if 97 ≤ c.toNat ∧ c.toNat ≤ 102 then c.toNat - 87 else 16
theorem valN_lt (c : UInt8) : valN c < 17 := by
  unfold valN
  repeat' split
  all_goals omega
/-- the byte that two digits say -/
def vx (c d : UInt8) : UInt8 := UInt8.ofNat (valN c % 16 * 16 + valN d % 16)
theorem vx_esc (b : UInt8) : vx (hexd (b.toNat / 16)) (hexd (b.toNat % 16)) = b := by
  have : ∀ z : Fin 256, vx (hexd (z.val / 16)) (hexd (z.val % 16)) = UInt8.ofNat z.val := by decide +kernel
  have h := this ⟨b.toNat, b.toNat_lt⟩
  simp only [UInt8.ofNat_toNat] at h
  exact h

/-- what is read of the bytes from a place on, of which the last is the quote -/
def runq (l : List UInt8) : List UInt8 :=
  if l.length < 2 then []
  else if l.getD 0 0 ≠ 92 then l.getD 0 0 :: runq (l.drop 1)
  else if l.getD 1 0 = 120 ∧ 5 ≤ l.length then vx (l.getD 2 0) (l.getD 3 0) :: runq (l.drop 4)
  else (if l.getD 1 0 = 110 then 10 else l.getD 1 0) :: runq (l.drop 2)
termination_by l.length
decreasing_by all_goals (rw [List.length_drop]; omega)
theorem runq_end (l : List UInt8) (h : l.length < 2) : runq l = [] := by rw [runq, if_pos h]
theorem runq_byte (l : List UInt8) (h : 2 ≤ l.length) (h1 : l.getD 0 0 ≠ 92) : runq l = l.getD 0 0 :: runq (l.drop 1) := by rw [runq, if_neg (by omega), if_pos h1]
theorem runq_hex (l : List UInt8) (h : 5 ≤ l.length) (h1 : l.getD 0 0 = 92) (h2 : l.getD 1 0 = 120) : runq l = vx (l.getD 2 0) (l.getD 3 0) :: runq (l.drop 4) := by
  rw [runq, if_neg (by omega), if_neg (by simpa using h1), if_pos ⟨h2, h⟩]
theorem runq_two (l : List UInt8) (h : 2 ≤ l.length) (h1 : l.getD 0 0 = 92) (h2 : ¬ (l.getD 1 0 = 120 ∧ 5 ≤ l.length)) : runq l = (if l.getD 1 0 = 110 then 10 else l.getD 1 0) :: runq (l.drop 2) := by
  rw [runq, if_neg (by omega), if_neg (by simpa using h1), if_neg h2]
theorem runq_len : ∀ (n : Nat) (l : List UInt8), l.length ≤ n → (runq l).length ≤ l.length
  | 0, l, h => by rw [runq_end l (by omega)]; simp
  | n + 1, l, h => by
    by_cases h0 : l.length < 2
    · rw [runq_end l h0]; simp
    · by_cases h1 : l.getD 0 0 ≠ 92
      · have := runq_len n (l.drop 1) (by rw [List.length_drop]; omega)
        rw [runq_byte l (by omega) h1, List.length_cons]
        rw [List.length_drop] at this; omega
      · have h1' : l.getD 0 0 = 92 := by simpa using h1
        by_cases h2 : l.getD 1 0 = 120 ∧ 5 ≤ l.length
        · have := runq_len n (l.drop 4) (by rw [List.length_drop]; omega)
          rw [runq_hex l h2.2 h1' h2.1, List.length_cons]
          rw [List.length_drop] at this; omega
        · have := runq_len n (l.drop 2) (by rw [List.length_drop]; omega)
          rw [runq_two l (by omega) h1' h2, List.length_cons]
          rw [List.length_drop] at this; omega

theorem runq_raw : ∀ (p X : List UInt8), (∀ c ∈ p, c ≠ 92) → X ≠ [] → runq (p ++ X) = p ++ runq X
  | [], X, _, _ => rfl
  | c :: t, X, h, hX => by
    have hl : 0 < X.length := List.length_pos_iff.2 hX
    rw [runq_byte (c :: t ++ X) (by simp; omega) (by simpa using h c (by simp))]
    show c :: runq (t ++ X) = _
    rw [runq_raw t X (fun d hd => h d (by simp [hd])) hX]; rfl
theorem runq_esc2 (c : UInt8) (X : List UInt8) (h : c ≠ 120) : runq (92 :: c :: X) = (if c = 110 then 10 else c) :: runq X := by
  rw [runq_two (92 :: c :: X) (by simp) rfl (fun e => h e.1)]; rfl
theorem runq_escs : ∀ (l X : List UInt8), X ≠ [] → runq (escs l ++ X) = l ++ runq X
  | [], X, _ => rfl
  | b :: t, X, hX => by
    have hl : 0 < X.length := List.length_pos_iff.2 hX
    have e : escs (b :: t) ++ X = 92 :: 120 :: hexd (b.toNat / 16) :: hexd (b.toNat % 16) :: (escs t ++ X) := by simp [escs, esc]
    rw [e, runq_hex _ (by simp; omega) rfl rfl]
    show vx (hexd (b.toNat / 16)) (hexd (b.toNat % 16)) :: runq (escs t ++ X) = _
    rw [vx_esc, runq_escs t X hX]; rfl
theorem runq_piece (l X : List UInt8) (hl : l ≠ []) (hX : X ≠ []) : runq (qpiece l ++ X) = l.take (dec l).2 ++ runq X := by
  unfold qpiece
  by_cases h1 : (dec l).1 = 34 ∨ (dec l).1 = 92
  · rw [if_pos h1]
    rcases h1 with h1 | h1
    · rw [dec_byte l hl 34 h1 (by omega), h1]; exact runq_esc2 34 X (by decide)
    · rw [dec_byte l hl 92 h1 (by omega), h1]; exact runq_esc2 92 X (by decide)
  · rw [if_neg h1]
    by_cases h2 : (dec l).1 = 10
    · rw [if_pos h2, dec_byte l hl 10 h2 (by omega)]; exact runq_esc2 110 X (by decide)
    · rw [if_neg h2]
      by_cases h3 : (ctl (dec l).1 || brk l) = true
      · rw [if_pos h3]; exact runq_escs _ X hX
      · rw [if_neg h3]
        refine runq_raw _ X (fun c hc => ?_) hX
        rcases piece_bytes l hl c hc with h | h
        · exact fun e => h1 (.inr (by rw [← h.1, e]; rfl))
        · exact fun e => by rw [e] at h; exact absurd h.1 (by decide)
theorem runq_qs : ∀ (k : Nat) (l : List UInt8), l.length ≤ k → runq (qs l ++ [34]) = l
  | 0, l, h => by
    have : l = [] := List.length_eq_zero_iff.1 (by omega)
    rw [this, qs_nil]; exact runq_end _ (by simp)
  | k + 1, l, h => by
    by_cases e : l = []
    · rw [e, qs_nil]; exact runq_end _ (by simp)
    · have h1 := drop_lt l e
      rw [qs_go l e, List.append_assoc, runq_piece l _ e (by simp), runq_qs k _ (by omega), List.take_append_drop]
/-- what the document's Unquote answers -/
def runqO (l : List UInt8) : Option (List UInt8) := if l.length < 2 then none else if quoteL (runq (l.drop 1)) = l then some (runq (l.drop 1)) else none
theorem runqO_eq (l : List UInt8) : runqO l = unq l := by
  cases hu : unq l with
  | some t =>
    have h := unq_some l t hu
    have hd : l.drop 1 = qs t ++ [34] := by rw [← h]; rfl
    have hr : runq (l.drop 1) = t := by rw [hd]; exact runq_qs _ t (Nat.le_refl _)
    unfold runqO
    rw [if_neg (by rw [← h]; simp [quoteL]), hr, if_pos h]
  | none =>
    unfold runqO
    by_cases h2 : l.length < 2
    · rw [if_pos h2]
    · rw [if_neg h2]
      by_cases h3 : quoteL (runq (l.drop 1)) = l
      · rw [← h3, unq_quote] at hu; cases hu
      · rw [if_neg h3]
end Go.Proofs.YtghjbghhciofnaaDoor
