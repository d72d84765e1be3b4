import Derived.Test.YtdchmmdndgbllaaDoorX24
import Derived.Test.YtdchmmdndgbllaaDoorX28
import Derived.Test.YtdchmmdndgbllaaDoorX08
/- The document's answer for rules: Is, Wrong, path, rule. -/
namespace Go.Proofs.YtdchmmdndgbllaaDoor
open Go.RowKit Go.Shelf

attribute [local go_sem] Oper.semAt_some

theorem urefIs_any (s : ByteArray) (w : World) (hs : s.size ≤ 4000000) :
    Calls Tryd.prog 42 #[.string s] w fun e w' => e = .returned (.bool (isP (bs s))) ∧ Below w.heap.size w w' := by
  have hp := refPath_any s w hs
  obtain ⟨e1, h1⟩ : ∃ e1, e1 = (pathSpot (bs s)).1 := ⟨_, rfl⟩
  obtain ⟨e2, h2⟩ : ∃ e2, e2 = (pathSpot (bs s)).2 := ⟨_, rfl⟩
  simp only [spotV] at hp
  rw [← h1, ← h2] at hp
  have H : Hid (((e1 : Int) == 0) = isP (bs s)) := by
    show _ = _
    unfold isP
    rw [← h1, Bool.eq_iff_iff, beq_iff_eq, beq_iff_eq]; omega
  clear h1 h2
  have hfd := fun w => field0 (.int .i64 (e1 : Int)) (.int .i64 (e2 : Int)) w
  go_enter Tryd.func42, Tryd.ntmps42
  go_wp2_with (go_at_call 54; refine hp.mono ?_; rintro e w' ⟨rfl, hB⟩)
  go_ret
  exact ⟨by rw [← H.out]; rfl, hB⟩
theorem urefWrong_any (s : ByteArray) (w : World) (hs : s.size ≤ 4000000) :
    Calls Tryd.prog 22 #[.string s] w fun e w' => e = .returned (.bool (!isP (bs s))) ∧ Below w.heap.size w w' := by
  have hp := urefIs_any s w hs
  generalize isP (bs s) = P at *
  go_enter Tryd.func22, Tryd.ntmps22
  go_wp2_with (go_at_call 42; refine hp.mono ?_; rintro e w' ⟨rfl, hB⟩)
  go_ret
  exact ⟨by cases P <;> rfl, hB⟩

def pathT (s : List UInt8) : List UInt8 := if s = [47] then [] else s
theorem pathT_some {s p : List UInt8} (h : pathW s = some p) : pathT s = p := by
  unfold pathW at h
  unfold pathT
  split at h
  · rename_i e; cases h; rw [if_pos e]
  · rename_i e
    rw [if_neg e]
    split at h
    · cases h
    · cases h; rfl
theorem rpath13_any (s : ByteArray) (w : World) (hs : s.size ≤ 1000000) : Calls Tryd.prog 49 #[.string s] w fun e w' => e = .returned (.tuple #[.string (mk (pathT (bs s))), .bool (pathW (bs s)).isSome]) ∧ Below w.heap.size w w' := by
  have hp := fun W => urefWrong_any s W (by omega)
  by_cases h1 : bs s = [47]
  · obtain rfl : s = ⟨#[47]⟩ := bs_inj h1
    clear h1 hp
    go_enter Tryd.func49, Tryd.ntmps49
    go_wp2
    go_ret2
    exact ⟨rfl, Below.refl _ _⟩
  by_cases h2 : bs s = []
  · obtain rfl : s = ⟨#[]⟩ := bs_inj h2
    clear h1 h2 hp
    go_enter Tryd.func49, Tryd.ntmps49
    go_wp2
    go_ret2
    exact ⟨rfl, Below.refl _ _⟩
  · have e1 := str_ne h1
    have hem : s.toList.isEmpty = false := by rw [str_empty]; exact decide_eq_false h2
    have HE : Hid ((pathW (bs s)).isSome = isP (bs s) ∧ mk (pathT (bs s)) = s) := by
      refine ⟨?_, ?_⟩
      · unfold pathW
        rw [if_neg h1]
        cases isP (bs s) <;> simp [h2]
      · unfold pathT
        rw [if_neg h1, mk_bs]
    clear h1 h2
    generalize isP (bs s) = P at *
    cases P with
    | true =>
      go_enter Tryd.func49, Tryd.ntmps49
      go_wp2_with (go_at_call 22; refine (hp _).mono ?_; clear hp; rintro e w2 ⟨rfl, hB2⟩)
      go_ret2
      exact ⟨by rw [HE.out.1, HE.out.2]; rfl, hB2⟩
    | false =>
      go_enter Tryd.func49, Tryd.ntmps49
      go_wp2_with (go_at_call 22; refine (hp _).mono ?_; clear hp; rintro e w2 ⟨rfl, hB2⟩)
      go_ret2
      exact ⟨by rw [HE.out.1, HE.out.2]; rfl, hB2⟩
end Go.Proofs.YtdchmmdndgbllaaDoor

/- How much the words of a line hold. -/
namespace Go.Proofs.YtdchmmdndgbllaaDoor

theorem addW_one {x : List UInt8} {r : WRes} {ws : List (List UInt8)} (h : addW [x] r = .ok ws) : ∃ t, r = .ok t ∧ ws = x :: t := by
  cases r with
  | error p => cases h
  | ok t => cases h; exact ⟨t, rfl, rfl⟩
theorem unq_short {l : List UInt8} : ((unq l).getD []).length ≤ l.length := by
  cases h : unq l with
  | none => simp
  | some t =>
    have e := unq_some l t h
    have := (qs_more t.length t (Nat.le_refl _)).1
    rw [← e]
    simp [quoteL]; omega
theorem words_room : ∀ (n : Nat) (l : List UInt8) (p : Nat) (ws : List (List UInt8)), l.length ≤ n → wordsL l p = .ok ws → (ws.map List.length).sum ≤ l.length ∧ ws.length ≤ l.length
  | 0, l, p, ws, h, hw => by
    have : l = [] := List.length_eq_zero_iff.1 (by omega)
    rw [this, wordsL_nil] at hw
    cases hw; simp
  | n + 1, l, p, ws, h, hw => by
    by_cases e : l = []
    · rw [e, wordsL_nil] at hw
      cases hw; simp
    · have hl : 0 < l.length := List.length_pos_iff.2 e
      by_cases h1 : l.getD 0 0 = 35
      · rw [wordsL_rem l p e h1] at hw
        cases hw; simp
      by_cases h2 : l.getD 0 0 = 32
      · rw [wordsL_blank l p e h2] at hw
        have := words_room n (l.drop 1) _ ws (by rw [List.length_drop]; omega) hw
        rw [List.length_drop] at this; omega
      by_cases h3 : l.getD 0 0 = 34
      · cases hq : qEnd (l.drop 1) with
        | none => rw [wordsL_open l p e h3 hq] at hw; cases hw
        | some k =>
          rw [wordsL_quote l p k e h3 hq] at hw
          split at hw
          · obtain ⟨t, ht, rfl⟩ := addW_one hw
            have hk := qEnd_le _ (l.drop 1) (Nat.le_refl _) k hq
            rw [List.length_drop] at hk
            have h4 := unq_short (l := l.take (k + 1))
            rw [List.length_take] at h4
            have := words_room n (l.drop (k + 1)) _ t (by rw [List.length_drop]; omega) ht
            rw [List.length_drop] at this
            simp only [List.map_cons, List.sum_cons, List.length_cons]
            omega
          · cases hw
      · rw [wordsL_plain l p e h1 h2 h3] at hw
        split at hw
        · obtain ⟨t, ht, rfl⟩ := addW_one hw
          have hb := blk_le (l.drop 1)
          rw [List.length_drop] at hb
          have := words_room n (l.drop (1 + blk (l.drop 1))) _ t (by rw [List.length_drop]; omega) ht
          rw [List.length_drop] at this
          simp only [List.map_cons, List.sum_cons, List.length_cons, List.length_take]
          omega
        · cases hw
theorem sum_mem : ∀ (ws : List (List UInt8)) (x : List UInt8), x ∈ ws → x.length ≤ (ws.map List.length).sum
  | [], x, h => by cases h
  | y :: r, x, h => by
    simp only [List.map_cons, List.sum_cons]
    rcases List.mem_cons.1 h with rfl | h
    · omega
    · have := sum_mem r x h; omega
theorem words_short {l : List UInt8} {p : Nat} {ws : List (List UInt8)} (h : wordsL l p = .ok ws) (j : Nat) : (ws.getD j []).length ≤ l.length := by
  have := (words_room _ l p ws (Nat.le_refl _) h).1
  by_cases hj : j < ws.length
  · rw [List.getD_eq_getElem?_getD, List.getElem?_eq_getElem hj]
    have h2 := sum_mem ws ws[j] (List.getElem_mem hj)
    simp only [Option.getD_some]; omega
  · rw [List.getD_eq_getElem?_getD, List.getElem?_eq_none (by omega)]; simp

theorem addW_bad {x : List UInt8} {r : WRes} {q : Nat} (h : addW [x] r = .error q) : r = .error q := by
  cases r with
  | error p => exact h
  | ok t => cases h
theorem words_place : ∀ (n : Nat) (l : List UInt8) (p q : Nat), l.length ≤ n → wordsL l p = .error q → q ≤ p + l.length
  | 0, l, p, q, h, hw => by
    have : l = [] := List.length_eq_zero_iff.1 (by omega)
    rw [this, wordsL_nil] at hw
    cases hw
  | n + 1, l, p, q, h, hw => by
    by_cases e : l = []
    · rw [e, wordsL_nil] at hw
      cases hw
    · have hl : 0 < l.length := List.length_pos_iff.2 e
      by_cases h1 : l.getD 0 0 = 35
      · rw [wordsL_rem l p e h1] at hw
        cases hw
      by_cases h2 : l.getD 0 0 = 32
      · rw [wordsL_blank l p e h2] at hw
        have := words_place n (l.drop 1) _ q (by rw [List.length_drop]; omega) hw
        rw [List.length_drop] at this; omega
      by_cases h3 : l.getD 0 0 = 34
      · cases hq : qEnd (l.drop 1) with
        | none => rw [wordsL_open l p e h3 hq] at hw; cases hw; omega
        | some k =>
          rw [wordsL_quote l p k e h3 hq] at hw
          split at hw
          · have ht := addW_bad hw
            have hk := qEnd_le _ (l.drop 1) (Nat.le_refl _) k hq
            rw [List.length_drop] at hk
            have := words_place n (l.drop (k + 1)) _ q (by rw [List.length_drop]; omega) ht
            rw [List.length_drop] at this; omega
          · cases hw; omega
      · rw [wordsL_plain l p e h1 h2 h3] at hw
        split at hw
        · have ht := addW_bad hw
          have hb := blk_le (l.drop 1)
          rw [List.length_drop] at hb
          have := words_place n (l.drop (1 + blk (l.drop 1))) _ q (by rw [List.length_drop]; omega) ht
          rw [List.length_drop] at this; omega
        · cases hw; omega
theorem lineG_bad {l : List UInt8} {e p : Nat} (h : lineG l = .error (e, p)) : (e = 150 ∨ e = 230) ∧ p ≤ l.length := by
  unfold lineG at h
  split at h
  · rename_i q hw
    cases h
    have := words_place _ l 0 _ (Nat.le_refl _) hw
    exact ⟨.inl rfl, by omega⟩
  · cases h
  · split at h
    · cases h; exact ⟨.inr rfl, Nat.zero_le _⟩
    · cases h

/-- what a line says, as the program tells it -/
def lineV (g : Except (Nat × Nat) (Option Ru)) : Ru × Nat × Nat :=
  match g with
  | .error (e, p) => (noR, e, p)
  | .ok none => (noR, 0, 0)
  | .ok (some r) => (r, 0, 0)
theorem lineV_err {l : List UInt8} {p : Nat} (h : wordsL l 0 = .error p) : lineV (lineG l) = (noR, 150, p) := by unfold lineG; rw [h]; rfl
theorem lineV_nil {l : List UInt8} (h : wordsL l 0 = .ok []) : lineV (lineG l) = (noR, 0, 0) := by unfold lineG; rw [h]; rfl
theorem lineV_none {l : List UInt8} {ws : List (List UInt8)} (h : wordsL l 0 = .ok ws) (h0 : ws ≠ []) (hr : ruleW ws = none) : lineV (lineG l) = (noR, 230, 0) := by
  cases ws with
  | nil => exact absurd rfl h0
  | cons a b =>
    unfold lineG; rw [h]
    show lineV (match ruleW (a :: b) with | none => _ | some x => _) = _
    rw [hr]; rfl
theorem lineV_some {l : List UInt8} {ws : List (List UInt8)} {r : Ru} (h : wordsL l 0 = .ok ws) (hr : ruleW ws = some r) : lineV (lineG l) = (r, 0, 0) := by
  have h0 := (ruleW_len hr).1
  cases ws with
  | nil => exact absurd h0 (by decide)
  | cons a b =>
    unfold lineG; rw [h]
    show lineV (match ruleW (a :: b) with | none => _ | some x => _) = _
    rw [hr]; rfl
end Go.Proofs.YtdchmmdndgbllaaDoor
