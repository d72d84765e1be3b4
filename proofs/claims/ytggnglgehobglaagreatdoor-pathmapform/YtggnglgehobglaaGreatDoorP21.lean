import Derived.Test.YtggnglgehobglaaGreatDoorP20
import Derived.Lib.Bytealg
/- The order of texts and of paths: over bytes. -/
namespace Go.Proofs.YtggnglgehobglaaGreatDoor
open Go.Lib (compareBytes)

theorem cmp_range : ∀ a b : List UInt8, compareBytes a b = -1 ∨ compareBytes a b = 0 ∨ compareBytes a b = 1
  | [], [] => .inr (.inl rfl)
  | [], _ :: _ => .inl rfl
  | _ :: _, [] => .inr (.inr rfl)
  | a :: s, b :: t => by
    unfold compareBytes
    split
    · exact .inl rfl
    · split
      · exact .inr (.inr rfl)
      · exact cmp_range s t
theorem cmp_self : ∀ a : List UInt8, compareBytes a a = 0
  | [] => rfl
  | a :: s => by
    unfold compareBytes
    rw [if_neg (UInt8.lt_irrefl a), if_neg (UInt8.lt_irrefl a), cmp_self s]
theorem cmp_zero : ∀ a b : List UInt8, compareBytes a b = 0 → a = b
  | [], [], _ => rfl
  | [], _ :: _, h => by simp [compareBytes] at h
  | _ :: _, [], h => by simp [compareBytes] at h
  | a :: s, b :: t, h => by
    unfold compareBytes at h
    split at h
    · cases h
    · split at h
      · cases h
      · rename_i h1 h2
        have : a = b := UInt8.le_antisymm (UInt8.not_lt.1 h2) (UInt8.not_lt.1 h1)
        rw [this, cmp_zero s t h]
theorem cmp_neg : ∀ a b : List UInt8, compareBytes b a = - compareBytes a b
  | [], [] => rfl
  | [], _ :: _ => rfl
  | _ :: _, [] => rfl
  | a :: s, b :: t => by
    unfold compareBytes
    by_cases h1 : a < b
    · rw [if_pos h1, if_neg (UInt8.lt_asymm h1), if_pos h1]; rfl
    · by_cases h2 : b < a
      · rw [if_pos h2, if_neg h1, if_pos h2]
      · rw [if_neg h2, if_neg h1, if_neg h1, if_neg h2]; exact cmp_neg s t
theorem cmp_trans : ∀ a b c : List UInt8, compareBytes a b ≤ 0 → compareBytes b c ≤ 0 → compareBytes a c ≤ 0
  | [], _, [], _, _ => by simp [compareBytes]
  | [], _, _ :: _, _, _ => by simp [compareBytes]
  | _ :: _, [], _, h, _ => by simp [compareBytes] at h
  | _ :: _, _ :: _, [], _, h => by simp [compareBytes] at h
  | a :: s, b :: t, c :: u, h1, h2 => by
    unfold compareBytes at h1 h2 ⊢
    by_cases hab : a < b
    · by_cases hbc : b < c
      · rw [if_pos (UInt8.lt_trans hab hbc)]; decide
      · rw [if_neg hbc] at h2
        by_cases hcb : c < b
        · rw [if_pos hcb] at h2; exact absurd h2 (by decide)
        · have e : b = c := UInt8.le_antisymm (UInt8.not_lt.1 hcb) (UInt8.not_lt.1 hbc)
          rw [if_pos (e ▸ hab)]; decide
    · rw [if_neg hab] at h1
      by_cases hba : b < a
      · rw [if_pos hba] at h1; exact absurd h1 (by decide)
      · rw [if_neg hba] at h1
        have e : a = b := UInt8.le_antisymm (UInt8.not_lt.1 hba) (UInt8.not_lt.1 hab)
        subst e
        by_cases hbc : a < c
        · rw [if_pos hbc]; decide
        · rw [if_neg hbc] at h2 ⊢
          by_cases hcb : c < a
          · rw [if_pos hcb] at h2; exact absurd h2 (by decide)
          · rw [if_neg hcb] at h2 ⊢
            exact cmp_trans s t u h1 h2
theorem cmp_prefix : ∀ (a r : List UInt8), 0 ≤ compareBytes (a ++ r) a
  | [], [] => by simp [compareBytes]
  | [], _ :: _ => by simp [compareBytes]
  | a :: s, r => by
    rw [List.cons_append]
    unfold compareBytes
    rw [if_neg (UInt8.lt_irrefl a), if_neg (UInt8.lt_irrefl a)]
    exact cmp_prefix s r
theorem cmp_cancel : ∀ (p a b : List UInt8), compareBytes (p ++ a) (p ++ b) = compareBytes a b
  | [], _, _ => rfl
  | c :: p, a, b => by
    rw [List.cons_append, List.cons_append]
    rw [compareBytes, if_neg (UInt8.lt_irrefl c), if_neg (UInt8.lt_irrefl c), cmp_cancel p a b]
/-- what stands between a text and one that goes on from it by a 0 goes on from it by a 0, or is it -/
theorem cmp_between : ∀ (p b c : List UInt8), 0 < compareBytes b p → compareBytes b (p ++ 0 :: c) < 0 → ∃ t, b = p ++ 0 :: t
  | [], [], _, h, _ => by simp [compareBytes] at h
  | [], x :: t, c, _, h => by
    rw [List.nil_append] at h
    unfold compareBytes at h
    have hx : ¬ x < 0 := UInt8.not_lt.2 (UInt8.zero_le)
    rw [if_neg hx] at h
    by_cases h0 : 0 < x
    · rw [if_pos h0] at h; exact absurd h (by decide)
    · have e : x = 0 := UInt8.le_antisymm (UInt8.not_lt.1 h0) UInt8.zero_le
      exact ⟨t, by rw [e]; rfl⟩
  | y :: p, [], _, h, _ => by simp [compareBytes] at h
  | y :: p, x :: t, c, h1, h2 => by
    rw [List.cons_append] at h2
    unfold compareBytes at h1 h2
    by_cases hxy : x < y
    · rw [if_pos hxy] at h1; exact absurd h1 (by decide)
    · rw [if_neg hxy] at h1 h2
      by_cases hyx : y < x
      · rw [if_pos hyx] at h2; exact absurd h2 (by decide)
      · rw [if_neg hyx] at h1 h2
        have e : x = y := UInt8.le_antisymm (UInt8.not_lt.1 hyx) (UInt8.not_lt.1 hxy)
        obtain ⟨u, hu⟩ := cmp_between p t c h1 h2
        exact ⟨u, by rw [e, hu]; rfl⟩

/-- a byte's weight -/
def wt (c : UInt8) : UInt8 := if c = 47 then 0 else c
theorem glue_bytes : ∀ (ns : List (List UInt8)), Good ns → ∀ c ∈ glue ns, 32 ≤ c.toNat
  | [], _, c, hc => by cases hc
  | [n], h, c, hc => by
    rw [glue_one] at hc
    exact (okName_bytes n (h n (by simp)) c hc).1
  | n :: m :: r, h, c, hc => by
    rw [glue_cons _ _ (by simp)] at hc
    rcases List.mem_append.1 hc with hc | hc
    · exact (okName_bytes n (h n (by simp)) c hc).1
    · rcases List.mem_cons.1 hc with e | hc
      · rw [e]; decide
      · exact glue_bytes (m :: r) (fun x hx => h x (by simp [hx])) c hc
theorem isP_bytes (l : List UInt8) (h : isP l = true) : ∀ c ∈ l, 32 ≤ c.toNat := by
  rw [← glue_parts l]; exact glue_bytes _ (isP_good h)
theorem wt_inj (c d : UInt8) (hc : 32 ≤ c.toNat) (hd : 32 ≤ d.toNat) (h : wt c = wt d) : c = d := by
  unfold wt at h
  split at h
  · rename_i e
    split at h
    · rename_i e'; rw [e, e']
    · rw [← h] at hd; exact absurd hd (by decide)
  · split at h
    · rw [h] at hc; exact absurd hc (by decide)
    · exact h
theorem map_wt_inj : ∀ (a b : List UInt8), (∀ c ∈ a, 32 ≤ c.toNat) → (∀ c ∈ b, 32 ≤ c.toNat) → a.map wt = b.map wt → a = b
  | [], [], _, _, _ => rfl
  | [], _ :: _, _, _, h => by simp at h
  | _ :: _, [], _, _, h => by simp at h
  | x :: s, y :: t, h1, h2, h => by
    rw [List.map_cons, List.map_cons] at h
    injection h with e1 e2
    rw [wt_inj x y (h1 x (by simp)) (h2 y (by simp)) e1, map_wt_inj s t (fun c hc => h1 c (by simp [hc])) (fun c hc => h2 c (by simp [hc])) e2]
/-- the order of paths -/
def cmpW (a b : List UInt8) : Int := compareBytes (a.map wt) (b.map wt)
/-- the order of all texts -/
def ordP (a b : List UInt8) : Int := if isP a then (if isP b then cmpW a b else -1) else if isP b then 1 else compareBytes a b
theorem ordP_range (a b : List UInt8) : ordP a b = -1 ∨ ordP a b = 0 ∨ ordP a b = 1 := by
  unfold ordP
  split
  · split
    · exact cmp_range _ _
    · exact .inl rfl
  · split
    · exact .inr (.inr rfl)
    · exact cmp_range _ _
theorem ordP_zero (a b : List UInt8) : ordP a b = 0 ↔ a = b := by
  constructor
  · intro h
    unfold ordP at h
    cases ha : isP a <;> cases hb : isP b <;> rw [ha, hb] at h
    · exact cmp_zero _ _ h
    · cases h
    · cases h
    · exact map_wt_inj a b (isP_bytes a ha) (isP_bytes b hb) (cmp_zero _ _ h)
  · rintro rfl
    unfold ordP
    cases ha : isP a
    · exact cmp_self _
    · exact cmp_self _
theorem ordP_neg (a b : List UInt8) : ordP b a = - ordP a b := by
  unfold ordP
  cases ha : isP a <;> cases hb : isP b
  · exact cmp_neg _ _
  · rfl
  · rfl
  · exact cmp_neg _ _
theorem ordP_trans (a b c : List UInt8) (h1 : ordP a b ≤ 0) (h2 : ordP b c ≤ 0) : ordP a c ≤ 0 := by
  unfold ordP at h1 h2 ⊢
  cases ha : isP a <;> cases hb : isP b <;> cases hc : isP c <;> rw [ha, hb] at h1 <;> rw [hb, hc] at h2
  · exact cmp_trans _ _ _ h1 h2
  · exact absurd (show (1 : Int) ≤ 0 from h2) (by decide)
  · exact absurd (show (1 : Int) ≤ 0 from h1) (by decide)
  · exact absurd (show (1 : Int) ≤ 0 from h1) (by decide)
  · show (-1 : Int) ≤ 0; decide
  · exact absurd (show (1 : Int) ≤ 0 from h2) (by decide)
  · show (-1 : Int) ≤ 0; decide
  · exact cmp_trans _ _ _ h1 h2
theorem ordP_trans' (a b c : List UInt8) (h1 : 0 ≤ ordP a b) (h2 : 0 ≤ ordP b c) : 0 ≤ ordP a c := by
  have := ordP_trans c b a (by rw [ordP_neg b c]; omega) (by rw [ordP_neg a b]; omega)
  rw [ordP_neg a c] at this; omega

/-- what lies in a path is it, or goes on behind a stroke -/
theorem inP_shape (a b : List UInt8) (h : inP a b = true) : b = [] ∨ a = b ∨ ∃ r, a = b ++ 47 :: r := by
  rw [inP_iff] at h
  obtain ⟨ha, hb, C, hC⟩ := h
  by_cases h0 : parts b = []
  · left; rw [← glue_parts b, h0]; rfl
  · by_cases h1 : C = []
    · right; left
      rw [h1, List.append_nil] at hC
      rw [← glue_parts a, ← hC, glue_parts]
    · right; right
      refine ⟨glue C, ?_⟩
      rw [← glue_parts a, ← hC, glue_append _ _ h0 h1, glue_parts]
theorem inP_of_shape (a b r : List UInt8) (ha : isP a = true) (hb : isP b = true) (h0 : b ≠ []) (h : a = b ++ 47 :: r) : inP a b = true := by
  unfold inP
  have : restP a b = some (a.drop (b.length + 1)) := by
    unfold restP
    rw [if_neg h0, if_neg (fun e => by have := congrArg List.length (h.symm.trans e.symm); simp at this), if_pos]
    rw [List.isPrefixOf_iff_prefix, h]
    exact ⟨r, by simp⟩
  rw [ha, hb, this]; rfl
theorem ordP_in (a b : List UInt8) (h : inP a b = true) : 0 ≤ ordP a b := by
  have h' := (inP_iff a b).1 h
  unfold ordP
  rw [h'.1, h'.2.1]
  simp only [if_true]
  show 0 ≤ compareBytes _ _
  rcases inP_shape a b h with e | e | ⟨r, e⟩
  · rw [e]; exact cmp_prefix [] _
  · rw [e, cmp_self]; decide
  · rw [e, List.map_append]; exact cmp_prefix _ _
theorem ordP_path (a b : List UInt8) (hb : isP b = true) (h : ordP a b < 0) : isP a = true := by
  cases ha : isP a with
  | true => rfl
  | false =>
    unfold ordP at h
    rw [ha, hb] at h
    exact absurd (show (1 : Int) < 0 from h) (by decide)
/-- all that lies in one path stands together -/
theorem ordP_together (a b c : List UInt8) (hc : isP c = true) (h1 : ordP a b < 0) (h2 : ordP b c < 0) : inP b (comP a c) = true := by
  have hb := ordP_path b c hc h2
  have ha := ordP_path a b hb h1
  obtain ⟨hm, _⟩ := comP_parts a c ha hc
  obtain ⟨ia, ic, _⟩ := inP_common a c [] ha hc
  generalize comP a c = m at hm ia ic
  by_cases h0 : m = []
  · rw [h0]; exact (inP_self b hb).2
  · unfold ordP at h1 h2
    rw [ha, hb] at h1
    rw [hb, hc] at h2
    simp only [if_true] at h1 h2
    unfold cmpW at h1 h2
    have hma : 0 < compareBytes (b.map wt) (m.map wt) := by
      have hma' : 0 ≤ compareBytes (a.map wt) (m.map wt) := by
        have := ordP_in a m ia
        unfold ordP at this
        rw [ha, hm] at this
        exact this
      rcases cmp_range (b.map wt) (m.map wt) with e | e | e
      · have := cmp_trans _ _ _ (Int.le_of_lt h1) (show compareBytes (b.map wt) (m.map wt) ≤ 0 by rw [e]; decide)
        have e0 : compareBytes (a.map wt) (m.map wt) = 0 := by omega
        have := cmp_zero _ _ e0
        rw [this, cmp_neg, e] at h1
        exact absurd h1 (by decide)
      · have := cmp_zero _ _ e
        rw [← this] at hma'
        omega
      · rw [e]; decide
    rcases inP_shape c m ic with e | e | ⟨r, e⟩
    · exact absurd e h0
    · rw [e] at h2; omega
    · rw [e, List.map_append, List.map_cons] at h2
      obtain ⟨t, ht⟩ := cmp_between (m.map wt) (b.map wt) (r.map wt) hma h2
      have hl : m.length < b.length := by
        have := congrArg List.length ht
        simp at this; omega
      have hpre : b.take m.length = m := by
        apply map_wt_inj _ _ (fun x hx => isP_bytes b hb x (List.mem_of_mem_take hx)) (isP_bytes m hm)
        rw [List.map_take, ht]
        have : (m.map wt).length = m.length := by simp
        rw [← this, List.take_left]
      have hx : b.drop m.length = 47 :: b.drop (m.length + 1) := by
        rw [List.drop_eq_getElem_cons hl]
        congr 1
        have h3 := congrArg (fun l => l[m.length]?) ht
        simp only [List.getElem?_map, List.getElem?_eq_getElem hl, Option.map_some] at h3
        rw [List.getElem?_append_right (by simp)] at h3
        simp at h3
        have h4 := isP_bytes b hb b[m.length] (List.getElem_mem hl)
        exact wt_inj _ 47 h4 (by decide) (h3.trans rfl)
      exact inP_of_shape b m (b.drop (m.length + 1)) hb hm h0 (by rw [← hx]; conv => lhs; rw [← List.take_append_drop m.length b, hpre])
theorem map_wt_id (a : List UInt8) (h : (47 : UInt8) ∉ a) : a.map wt = a := by
  have : ∀ c ∈ a, wt c = c := fun c hc => by unfold wt; rw [if_neg (fun e : c = 47 => h (e ▸ hc))]
  rw [List.map_congr_left this, List.map_id']
theorem ordP_plain (a b : List UInt8) (ha : isP a = true) (hb : isP b = true) (h1 : (47 : UInt8) ∉ a) (h2 : (47 : UInt8) ∉ b) : ordP a b = compareBytes a b := by
  unfold ordP
  rw [ha, hb]
  simp only [if_true]
  unfold cmpW
  rw [map_wt_id a h1, map_wt_id b h2]
end Go.Proofs.YtggnglgehobglaaGreatDoor
