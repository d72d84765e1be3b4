import Derived.Test.YtdchmmdndgbllaaDoorY08
/- How much the words of a line hold. -/
namespace Go.Proofs.YtdchmmdndgbllaaDoor

theorem addW_one {x : List UInt8} {r : WRes} {ws : List (List UInt8)} (h : addW [x] r = .ok ws) : ∃ t, r = .ok t ∧ ws = x :: t := by
  cases r with
  | error p => cases h
  | ok t => cases h; exact ⟨t, rfl, rfl⟩
theorem unq_short {l : List UInt8} : ((unq l).getD []).length ≤ l.length := by
  cases h : unq l with
  | none => simp
  | some t =>
    have e := unq_some l t h
    have := (qs_more t.length t (Nat.le_refl _)).1
    rw [← e]
    simp [quoteL]; omega
theorem words_room : ∀ (n : Nat) (l : List UInt8) (p : Nat) (ws : List (List UInt8)), l.length ≤ n → wordsL l p = .ok ws → (ws.map List.length).sum ≤ l.length ∧ ws.length ≤ l.length
  | 0, l, p, ws, h, hw => by
    have : l = [] := List.length_eq_zero_iff.1 (by omega)
    rw [this, wordsL_nil] at hw
    cases hw; simp
  | n + 1, l, p, ws, h, hw => by
    by_cases e : l = []
    · rw [e, wordsL_nil] at hw
      cases hw; simp
    · have hl : 0 < l.length := List.length_pos_iff.2 e
      by_cases h1 : l.getD 0 0 = 35
      · rw [wordsL_rem l p e h1] at hw
        cases hw; simp
      by_cases h2 : l.getD 0 0 = 32
      · rw [wordsL_blank l p e h2] at hw
        have := words_room n (l.drop 1) _ ws (by rw [List.length_drop]; omega) hw
        rw [List.length_drop] at this; omega
      by_cases h3 : l.getD 0 0 = 34
      · cases hq : qEnd (l.drop 1) with
        | none => rw [wordsL_open l p e h3 hq] at hw; cases hw
        | some k =>
          rw [wordsL_quote l p k e h3 hq] at hw
          split at hw
          · obtain ⟨t, ht, rfl⟩ := addW_one hw
            have hk := qEnd_le _ (l.drop 1) (Nat.le_refl _) k hq
            rw [List.length_drop] at hk
            have h4 := unq_short (l := l.take (k + 1))
            rw [List.length_take] at h4
            have := words_room n (l.drop (k + 1)) _ t (by rw [List.length_drop]; omega) ht
            rw [List.length_drop] at this
            simp only [List.map_cons, List.sum_cons, List.length_cons]
            omega
          · cases hw
      · rw [wordsL_plain l p e h1 h2 h3] at hw
        split at hw
        · obtain ⟨t, ht, rfl⟩ := addW_one hw
          have hb := blk_le (l.drop 1)
          rw [List.length_drop] at hb
          have := words_room n (l.drop (1 + blk (l.drop 1))) _ t (by rw [List.length_drop]; omega) ht
          rw [List.length_drop] at this
          simp only [List.map_cons, List.sum_cons, List.length_cons, List.length_take]
          omega
        · cases hw
theorem sum_mem : ∀ (ws : List (List UInt8)) (x : List UInt8), x ∈ ws → x.length ≤ (ws.map List.length).sum
  | [], x, h => by cases h
  | y :: r, x, h => by
    simp only [List.map_cons, List.sum_cons]
    rcases List.mem_cons.1 h with rfl | h
    · omega
    · have := sum_mem r x h; omega
theorem words_short {l : List UInt8} {p : Nat} {ws : List (List UInt8)} (h : wordsL l p = .ok ws) (j : Nat) : (ws.getD j []).length ≤ l.length := by
  have := (words_room _ l p ws (Nat.le_refl _) h).1
  by_cases hj : j < ws.length
  · rw [List.getD_eq_getElem?_getD, List.getElem?_eq_getElem hj]
    have h2 := sum_mem ws ws[j] (List.getElem_mem hj)
    simp only [Option.getD_some]; omega
  · rw [List.getD_eq_getElem?_getD, List.getElem?_eq_none (by omega)]; simp

theorem addW_bad {x : List UInt8} {r : WRes} {q : Nat} (h : addW [x] r = .error q) : r = .error q := by
  cases r with
  | error p => exact h
  | ok t => cases h
theorem words_place : ∀ (n : Nat) (l : List UInt8) (p q : Nat), l.length ≤ n → wordsL l p = .error q → q ≤ p + l.length
  | 0, l, p, q, h, hw => by
    have : l = [] := List.length_eq_zero_iff.1 (by omega)
    rw [this, wordsL_nil] at hw
    cases hw
  | n + 1, l, p, q, h, hw => by
    by_cases e : l = []
    · rw [e, wordsL_nil] at hw
      cases hw
    · have hl : 0 < l.length := List.length_pos_iff.2 e
      by_cases h1 : l.getD 0 0 = 35
      · rw [wordsL_rem l p e h1] at hw
        cases hw
      by_cases h2 : l.getD 0 0 = 32
      · rw [wordsL_blank l p e h2] at hw
        have := words_place n (l.drop 1) _ q (by rw [List.length_drop]; omega) hw
        rw [List.length_drop] at this; omega
      by_cases h3 : l.getD 0 0 = 34
      · cases hq : qEnd (l.drop 1) with
        | none => rw [wordsL_open l p e h3 hq] at hw; cases hw; omega
        | some k =>
          rw [wordsL_quote l p k e h3 hq] at hw
          split at hw
          · have ht := addW_bad hw
            have hk := qEnd_le _ (l.drop 1) (Nat.le_refl _) k hq
            rw [List.length_drop] at hk
            have := words_place n (l.drop (k + 1)) _ q (by rw [List.length_drop]; omega) ht
            rw [List.length_drop] at this; omega
          · cases hw; omega
      · rw [wordsL_plain l p e h1 h2 h3] at hw
        split at hw
        · have ht := addW_bad hw
          have hb := blk_le (l.drop 1)
          rw [List.length_drop] at hb
          have := words_place n (l.drop (1 + blk (l.drop 1))) _ q (by rw [List.length_drop]; omega) ht
          rw [List.length_drop] at this; omega
        · cases hw; omega
theorem lineG_bad {l : List UInt8} {e p : Nat} (h : lineG l = .error (e, p)) : (e = 150 ∨ e = 230) ∧ p ≤ l.length := by
  unfold lineG at h
  split at h
  · rename_i q hw
    cases h
    have := words_place _ l 0 _ (Nat.le_refl _) hw
    exact ⟨.inl rfl, by omega⟩
  · cases h
  · split at h
    · cases h; exact ⟨.inr rfl, Nat.zero_le _⟩
    · cases h

/-- what a line says, as the program tells it -/
def lineV (g : Except (Nat × Nat) (Option Ru)) : Ru × Nat × Nat :=
  match g with
  | .error (e, p) => (noR, e, p)
  | .ok none => (noR, 0, 0)
  | .ok (some r) => (r, 0, 0)
theorem lineV_err {l : List UInt8} {p : Nat} (h : wordsL l 0 = .error p) : lineV (lineG l) = (noR, 150, p) := by unfold lineG; rw [h]; rfl
theorem lineV_nil {l : List UInt8} (h : wordsL l 0 = .ok []) : lineV (lineG l) = (noR, 0, 0) := by unfold lineG; rw [h]; rfl
theorem lineV_none {l : List UInt8} {ws : List (List UInt8)} (h : wordsL l 0 = .ok ws) (h0 : ws ≠ []) (hr : ruleW ws = none) : lineV (lineG l) = (noR, 230, 0) := by
  cases ws with
  | nil => exact absurd rfl h0
  | cons a b =>
    unfold lineG; rw [h]
    show lineV (match ruleW (a :: b) with | none => _ | some x => _) = _
    rw [hr]; rfl
theorem lineV_some {l : List UInt8} {ws : List (List UInt8)} {r : Ru} (h : wordsL l 0 = .ok ws) (hr : ruleW ws = some r) : lineV (lineG l) = (r, 0, 0) := by
  have h0 := (ruleW_len hr).1
  cases ws with
  | nil => exact absurd h0 (by decide)
  | cons a b =>
    unfold lineG; rw [h]
    show lineV (match ruleW (a :: b) with | none => _ | some x => _) = _
    rw [hr]; rfl
end Go.Proofs.YtdchmmdndgbllaaDoor
