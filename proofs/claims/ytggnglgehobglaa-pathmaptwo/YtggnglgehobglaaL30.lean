import Derived.Test.YtggnglgehobglaaL03
/- What lies in what is an order; a path moved there and back: over bytes. -/
namespace Go.Proofs.Ytggnglgehobglaa

theorem inP_self (a : List UInt8) (h : isP a = true) : inP a a = true ∧ inP a [] = true :=
  ⟨(inP_iff _ _).2 ⟨h, h, List.prefix_refl _⟩, (inP_iff _ _).2 ⟨h, isP_nil, by rw [parts_nil]; exact List.nil_prefix⟩⟩
theorem inP_trans (a b c : List UInt8) (h : inP a b = true) (k : inP b c = true) : inP a c = true := by
  rw [inP_iff] at h k ⊢
  exact ⟨h.1, k.2.1, k.2.2.trans h.2.2⟩
theorem inP_anti (a b : List UInt8) (h : inP a b = true) (k : inP b a = true) : a = b := by
  rw [inP_iff] at h k
  have : parts a = parts b := (List.IsPrefix.eq_of_length_le k.2.2 h.2.2.length_le)
  rw [← glue_parts a, this, glue_parts]
theorem prefix_or {α : Type} (X Y Z : List α) (h : X <+: Z) (k : Y <+: Z) : X <+: Y ∨ Y <+: X := by
  by_cases hl : X.length ≤ Y.length
  · exact .inl (List.prefix_of_prefix_length_le h k hl)
  · exact .inr (List.prefix_of_prefix_length_le k h (by omega))
theorem inP_chain (a b c : List UInt8) (h : inP a b = true) (k : inP a c = true) : inP b c = true ∨ inP c b = true := by
  rw [inP_iff] at h k ⊢
  rw [inP_iff]
  rcases prefix_or _ _ _ h.2.2 k.2.2 with e | e
  · exact .inr ⟨k.2.1, h.2.1, e⟩
  · exact .inl ⟨h.2.1, k.2.1, e⟩
theorem inP_common (a b c : List UInt8) (ha : isP a = true) (hb : isP b = true) :
    inP a (comP a b) = true ∧ inP b (comP a b) = true ∧ (inP a c = true → inP b c = true → inP (comP a b) c = true) := by
  obtain ⟨hi, hp⟩ := comP_parts a b ha hb
  refine ⟨(inP_iff _ _).2 ⟨ha, hi, by rw [hp]; exact lcp_left _ _⟩, (inP_iff _ _).2 ⟨hb, hi, by rw [hp]; exact lcp_right _ _⟩, fun h k => ?_⟩
  rw [inP_iff] at h k ⊢
  exact ⟨hi, h.2.1, by rw [hp]; exact lcp_least _ _ _ h.2.2 k.2.2⟩

theorem isP_err (p : List UInt8) (h : isP p = false) : (pathSpot p).1 ≠ 0 := fun e => by
  unfold isP at h
  rw [e] at h
  cases h
theorem firstP_zero (l : List (List UInt8)) (h : firstP l = 0) : ∀ p ∈ l, isP p = true := by
  induction l with
  | nil => intro p hp; cases hp
  | cons q r ih =>
    intro p hp
    unfold firstP at h
    cases hq : isP q with
    | false => rw [hq] at h; exact absurd h (isP_err q hq)
    | true =>
      rw [hq] at h
      rcases List.mem_cons.1 hp with e | e
      · rw [e]; exact hq
      · exact ih h p e
theorem firstP_of (l : List (List UInt8)) (h : ∀ p ∈ l, isP p = true) : firstP l = 0 := by
  induction l with
  | nil => rfl
  | cons q r ih =>
    unfold firstP
    rw [h q (by simp), ih (fun p hp => h p (by simp [hp]))]; rfl

/-- a path that is moved: what it is -/
theorem moveP_parts (a b c : List UInt8) (ha : isP a = true) (hb : isP b = true) (hc : isP c = true) :
    moveP a b c = if parts b <+: parts a then (if isP (glue (parts c ++ (parts a).drop (parts b).length)) = true then (glue (parts c ++ (parts a).drop (parts b).length), 0) else ([], 3)) else ([], 141) := by
  have h0 : firstP [a, b, c] = 0 := firstP_of _ (by simp [ha, hb, hc])
  unfold moveP
  rw [h0, restP_parts a b ha hb]
  simp only [ne_eq, not_true_eq_false, if_false]
  by_cases hp : parts b <+: parts a
  · rw [if_pos hp, if_pos hp]
    simp only
    have hg : Good ((parts a).drop (parts b).length) := (isP_good ha).sub (fun n hn => List.mem_of_mem_drop hn)
    have hpd : isP (glue ((parts a).drop (parts b).length)) = true := by
      refine (isP_glue _ hg).2 ?_
      have h1 := restP_parts a b ha hb
      rw [if_pos hp] at h1
      have hl : (glue ((parts a).drop (parts b).length)).length ≤ a.length := by
        unfold restP at h1
        split at h1
        · injection h1 with h1; rw [← h1]; exact Nat.le_refl _
        · split at h1
          · injection h1 with h1; rw [← h1]; simp
          · split at h1
            · injection h1 with h1; rw [← h1, List.length_drop]; omega
            · cases h1
      have h2 := (isP_iff a).1 ha
      exact ⟨by omega, by rw [List.length_drop]; omega⟩
    rw [joinP_parts c _ hc hpd, parts_glue _ hg]
    by_cases hh : isP (glue (parts c ++ (parts a).drop (parts b).length)) = true
    · rw [if_pos hh, if_pos hh]
    · rw [if_neg hh, if_neg hh]
  · rw [if_neg hp, if_neg hp]
theorem moveP_zero (a b c s : List UInt8) (h : moveP a b c = (s, 0)) : isP a = true ∧ isP b = true ∧ isP c = true := by
  have h0 : firstP [a, b, c] = 0 := by
    by_cases e : firstP [a, b, c] = 0
    · exact e
    · unfold moveP at h
      rw [if_pos e] at h
      exact absurd (congrArg Prod.snd h) e
  have := firstP_zero _ h0
  exact ⟨this a (by simp), this b (by simp), this c (by simp)⟩
theorem moveP_back (a b c s : List UInt8) (h : moveP a b c = (s, 0)) : moveP s c b = (a, 0) ∧ inP a b = true ∧ inP s c = true := by
  obtain ⟨ha, hb, hc⟩ := moveP_zero a b c s h
  rw [moveP_parts a b c ha hb hc] at h
  by_cases hp : parts b <+: parts a
  · rw [if_pos hp] at h
    split at h
    · rename_i hs
      have hse := congrArg Prod.fst h
      simp only at hse
      have hg : Good (parts c ++ (parts a).drop (parts b).length) := (isP_good hc).append ((isP_good ha).sub (fun n hn => List.mem_of_mem_drop hn))
      have hps : parts s = parts c ++ (parts a).drop (parts b).length := by rw [← hse, parts_glue _ hg]
      rw [hse] at hs
      have hin : inP s c = true := (inP_iff _ _).2 ⟨hs, hc, by rw [hps]; exact List.prefix_append _ _⟩
      refine ⟨?_, (inP_iff _ _).2 ⟨ha, hb, hp⟩, hin⟩
      have hab : parts b ++ (parts a).drop (parts b).length = parts a := by
        obtain ⟨D, hD⟩ := hp
        rw [← hD, List.drop_left]
      rw [moveP_parts s c b hs hc hb, hps, if_pos (List.prefix_append _ _), List.drop_left, hab, glue_parts, if_pos ha]
    · exact absurd (congrArg Prod.snd h) (by simp)
  · rw [if_neg hp] at h
    exact absurd (congrArg Prod.snd h) (by simp)
end Go.Proofs.Ytggnglgehobglaa
