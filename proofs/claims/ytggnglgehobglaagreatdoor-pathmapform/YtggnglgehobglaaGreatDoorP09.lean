import Derived.Test.YtggnglgehobglaaGreatDoorP08
/- What is quoted is right: over bytes. -/
namespace Go.Proofs.YtggnglgehobglaaGreatDoor

/-- is there neither a control nor a broken byte? -/
def okq (l : List UInt8) : Bool :=
  if l = [] then true else !(ctl (dec l).1 || brk l) && okq (l.drop (dec l).2)
termination_by l.length
decreasing_by exact drop_lt l (by assumption)
theorem okq_nil : okq [] = true := by rw [okq]; simp
theorem okq_go (l : List UInt8) (h : l ≠ []) : okq l = (!(ctl (dec l).1 || brk l) && okq (l.drop (dec l).2)) := by rw [okq, if_neg h]
theorem okq_low (c : UInt8) (Y : List UInt8) (h1 : 32 ≤ c.toNat) (h2 : c.toNat < 127) : okq (c :: Y) = okq Y := by
  rw [okq_go _ (by simp), brk, dec_ascii c Y (by omega)]
  have e1 : ctl c.toNat = false := by unfold ctl; simp; omega
  have e2 : decide (c.toNat = 65533) = false := decide_eq_false (by omega)
  simp only [e1, e2]; simp
theorem okq_escs : ∀ (l Y : List UInt8), okq (escs l ++ Y) = okq Y
  | [], Y => rfl
  | b :: t, Y => by
    have e : escs (b :: t) ++ Y = 92 :: 120 :: hexd (b.toNat / 16) :: hexd (b.toNat % 16) :: (escs t ++ Y) := by simp [escs, esc]
    have hb := b.toNat_lt
    have h1 := hexd_print (b.toNat / 16) (by omega)
    have h2 := hexd_print (b.toNat % 16) (by omega)
    rw [e, okq_low _ _ (by decide) (by decide), okq_low _ _ (by decide) (by decide), okq_low _ _ (by omega) (by omega), okq_low _ _ (by omega) (by omega), okq_escs t Y]
theorem okq_piece (l Y : List UInt8) (hl : l ≠ []) : okq (qpiece l ++ Y) = okq Y := by
  unfold qpiece
  by_cases h1 : (dec l).1 = 34 ∨ (dec l).1 = 92
  · rw [if_pos h1]
    rcases h1 with h1 | h1 <;> rw [h1] <;>
    · show okq (92 :: _ :: Y) = _
      rw [okq_low _ _ (by decide) (by decide), okq_low _ _ (by decide) (by decide)]
  · rw [if_neg h1]
    by_cases h2 : (dec l).1 = 10
    · rw [if_pos h2]
      show okq (92 :: 110 :: Y) = _
      rw [okq_low _ _ (by decide) (by decide), okq_low _ _ (by decide) (by decide)]
    · rw [if_neg h2]
      by_cases h3 : (ctl (dec l).1 || brk l) = true
      · rw [if_pos h3]; exact okq_escs _ Y
      · rw [if_neg h3]
        have h3' : (ctl (dec l).1 || brk l) = false := Bool.eq_false_iff.2 h3
        have hb : brk l = false := (Bool.or_eq_false_iff.1 h3').2
        have hd := dec_form' l hl hb Y
        have hn := dec_le l hl
        have hp := dec_pos l
        have hne : l.take (dec l).2 ++ Y ≠ [] := by
          intro e
          have := congrArg List.length e
          rw [List.length_append, List.length_take, List.length_nil] at this; omega
        have hb' : brk (l.take (dec l).2 ++ Y) = false := by rw [brk_iff _ hne, hd, ← brk_iff l hl]; exact hb
        rw [okq_go _ hne, hb', hd, (Bool.or_eq_false_iff.1 h3').1, List.drop_append_of_le_length (by rw [List.length_take]; omega), List.drop_take]
        simp
theorem okq_qs : ∀ (k : Nat) (l Y : List UInt8), l.length ≤ k → okq (qs l ++ Y) = okq Y
  | 0, l, Y, h => by
    have : l = [] := List.length_eq_zero_iff.1 (by omega)
    rw [this, qs_nil]; rfl
  | k + 1, l, Y, h => by
    by_cases e : l = []
    · rw [e, qs_nil]; rfl
    · have h1 := drop_lt l e
      rw [qs_go l e, List.append_assoc, okq_piece l _ e, okq_qs k _ Y (by omega)]
theorem okq_quote (l : List UInt8) : okq (quoteL l) = true := by
  unfold quoteL
  rw [okq_low _ _ (by decide) (by decide), okq_qs _ l _ (Nat.le_refl _), okq_low _ _ (by decide) (by decide), okq_nil]

/-- does the piece at the front need nothing? -/
def need (l : List UInt8) : Bool := ctl (dec l).1 || decide ((dec l).1 = 34) || decide ((dec l).1 = 92) || brk l
def noneed (l : List UInt8) : Bool :=
  if l = [] then true else !need l && noneed (l.drop (dec l).2)
termination_by l.length
decreasing_by exact drop_lt l (by assumption)
theorem noneed_nil : noneed [] = true := by rw [noneed]; simp
theorem noneed_go (l : List UInt8) (h : l ≠ []) : noneed l = (!need l && noneed (l.drop (dec l).2)) := by rw [noneed, if_neg h]
theorem qpiece_same (l : List UInt8) (h : need l = false) : qpiece l = l.take (dec l).2 := by
  unfold need at h
  simp only [Bool.or_eq_false_iff, decide_eq_false_iff_not] at h
  obtain ⟨⟨⟨h1, h2⟩, h3⟩, h4⟩ := h
  unfold qpiece
  rw [if_neg (by rintro (e | e); exact h2 e; exact h3 e), if_neg (by intro e; rw [e] at h1; cases h1), if_neg (by rw [h1, h4]; decide)]
theorem qpiece_more (l : List UInt8) (hl : l ≠ []) : (dec l).2 ≤ (qpiece l).length ∧ (need l = true → (dec l).2 < (qpiece l).length) := by
  have hn := dec_le l hl
  have hp := dec_pos l
  by_cases hq : need l = true
  · have : (dec l).2 < (qpiece l).length := by
      unfold qpiece
      by_cases h1 : (dec l).1 = 34 ∨ (dec l).1 = 92
      · rw [if_pos h1]
        obtain ⟨_, _, _, _, hw⟩ := dec_low l hl (by omega)
        rw [hw]; simp
      · rw [if_neg h1]
        by_cases h2 : (dec l).1 = 10
        · rw [if_pos h2]
          obtain ⟨_, _, _, _, hw⟩ := dec_low l hl (by omega)
          rw [hw]; simp
        · rw [if_neg h2]
          by_cases h3 : (ctl (dec l).1 || brk l) = true
          · rw [if_pos h3, escs_len, List.length_take]; omega
          · exfalso
            have h3' := Bool.or_eq_false_iff.1 (Bool.eq_false_iff.2 h3)
            unfold need at hq
            rw [h3'.1, h3'.2, decide_eq_false (fun e => h1 (.inl e)), decide_eq_false (fun e => h1 (.inr e))] at hq
            cases hq
    exact ⟨by omega, fun _ => this⟩
  · have := qpiece_same l (Bool.eq_false_iff.2 hq)
    rw [this, List.length_take]
    exact ⟨by omega, fun h => absurd h hq⟩
theorem qs_more : ∀ (k : Nat) (l : List UInt8), l.length ≤ k → l.length ≤ (qs l).length ∧ (noneed l = true → qs l = l) ∧ (noneed l = false → l.length < (qs l).length)
  | 0, l, h => by
    have : l = [] := List.length_eq_zero_iff.1 (by omega)
    rw [this, qs_nil, noneed_nil]; simp
  | k + 1, l, h => by
    by_cases e : l = []
    · rw [e, qs_nil, noneed_nil]; simp
    · have h1 := drop_lt l e
      have h2 := qpiece_more l e
      have h3 := qs_more k (l.drop (dec l).2) (by omega)
      have hn := dec_le l e
      have hd : (l.drop (dec l).2).length = l.length - (dec l).2 := List.length_drop
      rw [qs_go l e, noneed_go l e, List.length_append]
      refine ⟨by omega, fun hx => ?_, fun hx => ?_⟩
      · have ha := (Bool.and_eq_true _ _ ▸ hx).1
        have hb := (Bool.and_eq_true _ _ ▸ hx).2
        rw [qpiece_same l (by simpa using ha), h3.2.1 hb, List.take_append_drop]
      · rcases Bool.and_eq_false_iff.1 hx with ha | hb
        · have := h2.2 (by simpa using ha); omega
        · have := h3.2.2 hb; omega
theorem quote_same (l : List UInt8) : decide (quoteL l = 34 :: (l ++ [34])) = noneed l := by
  have h := qs_more _ l (Nat.le_refl _)
  unfold quoteL
  cases hx : noneed l with
  | true => rw [h.2.1 hx]; simp
  | false =>
    refine decide_eq_false fun e => ?_
    have h2 := h.2.2 hx
    have h3 := congrArg List.length e
    simp only [List.length_cons, List.length_append] at h3
    omega
end Go.Proofs.YtggnglgehobglaaGreatDoor

/- The lines of a text, over bytes. -/
namespace Go.Proofs.YtggnglgehobglaaGreatDoor

/-- cut at the bytes 10; what is left open at the end is a line if it has a byte -/
def cutN : List UInt8 → List UInt8 → List (List UInt8)
  | cur, [] => if cur = [] then [] else [cur]
  | cur, c :: t => if c = 10 then cur :: cutN [] t else cutN (cur ++ [c]) t
def linesL (l : List UInt8) : List (List UInt8) := cutN [] l
def nums : Nat → List (List UInt8) → List (Nat × List UInt8)
  | _, [] => []
  | k, l :: r => (k, l) :: nums (k + 1) r
theorem cutN_run : ∀ (n cur r : List UInt8), (10 : UInt8) ∉ n → cutN cur (n ++ r) = cutN (cur ++ n) r
  | [], cur, r, _ => by simp
  | c :: t, cur, r, h => by
    have hc : c ≠ 10 := fun e => h (by simp [e])
    show cutN cur (c :: (t ++ r)) = _
    rw [cutN, if_neg hc, cutN_run t _ r (fun hm => h (by simp [hm])), List.append_assoc]; rfl
theorem nums_len : ∀ (ls : List (List UInt8)) (k : Nat), (nums k ls).length = ls.length
  | [], _ => rfl
  | _ :: r, k => by simp [nums, nums_len r]
theorem nums_get : ∀ (ls : List (List UInt8)) (k i : Nat), (nums k ls)[i]? = (ls[i]?).map fun l => (k + i, l)
  | [], k, i => by simp [nums]
  | l :: r, k, 0 => by simp [nums]
  | l :: r, k, i + 1 => by
    simp only [nums, List.getElem?_cons_succ]
    rw [nums_get r (k + 1) i, show k + 1 + i = k + (i + 1) by omega]
theorem dec_ten (l : List UInt8) (hl : l ≠ []) (h : (dec l).1 = 10) : (dec l).2 = 1 ∧ ∃ t, l = 10 :: t := by
  obtain ⟨c, t, rfl, hc, hw⟩ := dec_low l hl (by omega)
  refine ⟨hw, t, ?_⟩
  rw [h] at hc
  rw [show c = 10 from UInt8.toNat_inj.1 hc]
theorem piece_ten (l : List UInt8) (hl : l ≠ []) (h : (dec l).1 ≠ 10) : (10 : UInt8) ∉ l.take (dec l).2 := fun hm => by
  rcases piece_bytes l hl 10 hm with h1 | h1
  · exact h h1.1.symm
  · exact absurd h1.1 (by decide)

/-- the lines, with a byte 10 behind each -/
def backL (ls : List (List UInt8)) : List UInt8 := ls.flatMap fun l => l ++ [10]
theorem backL_snoc (ls : List (List UInt8)) (l : List UInt8) : backL (ls ++ [l]) = backL ls ++ (l ++ [10]) := by simp [backL]
theorem back_cut : ∀ (l cur : List UInt8), backL (cutN cur l) = cur ++ l ∨ (backL (cutN cur l) = cur ++ l ++ [10] ∧ cur ++ l ≠ [])
  | [], cur => by
    unfold cutN
    by_cases h : cur = []
    · left; rw [if_pos h, h]; rfl
    · right; rw [if_neg h]; simp [backL, h]
  | c :: t, cur => by
    rw [cutN]
    by_cases h : c = 10
    · rw [if_pos h]
      have e : backL (cur :: cutN [] t) = cur ++ [10] ++ backL (cutN [] t) := by simp [backL]
      subst h
      rcases back_cut t [] with h1 | h1
      · left; rw [e, h1]; simp
      · right; rw [e, h1.1]; simp
    · rw [if_neg h]
      rcases back_cut t (cur ++ [c]) with h1 | h1
      · left; rw [h1]; simp
      · right; rw [h1.1]; simp
theorem back_lines (l : List UInt8) : backL (linesL l) = l ∨ (backL (linesL l) = l ++ [10] ∧ l ≠ []) := by
  have := back_cut l []
  simpa [linesL] using this
theorem back_len (l : List UInt8) : (backL (linesL l)).length ≤ l.length + 1 := by
  rcases back_lines l with h | h
  · rw [h]; omega
  · rw [h.1]; simp
theorem cutN_len : ∀ (l cur : List UInt8), (cutN cur l).length ≤ l.length + 1
  | [], cur => by unfold cutN; split <;> simp
  | c :: t, cur => by
    rw [cutN]
    split
    · have := cutN_len t []; simp only [List.length_cons]; omega
    · have := cutN_len t (cur ++ [c]); simp only [List.length_cons]; omega
end Go.Proofs.YtggnglgehobglaaGreatDoor

/- Rules, their lines and texts, over bytes. -/
namespace Go.Proofs.YtggnglgehobglaaGreatDoor

/-- a rule: its kind, From, To -/
abbrev Ru := Int × List UInt8 × List UInt8
def noR : Ru := (0, [], [])
def okR (r : Ru) : Bool := isP r.2.1 && isP r.2.2 && (decide (r.1 = 3) || ((decide (r.1 = 1) || decide (r.1 = 2)) && decide (r.2.2 = [])))
/-- the word of a path, not quoted yet -/
def wdP (p : List UInt8) : List UInt8 := if p = [] then [47] else p
def wsR (r : Ru) : List (List UInt8) := if r.1 = 1 then [[107, 101, 101, 112], wdP r.2.1] else if r.1 = 2 then [[100, 114, 111, 112], wdP r.2.1] else [[109, 111, 118, 101], wdP r.2.1, wdP r.2.2]
def lineR (r : Ru) : List UInt8 := lineL (wsR r)
/-- the kind of a first word, and how many words that asks -/
def kindW (s : List UInt8) : Int × Nat := if s = [107, 101, 101, 112] then (1, 2) else if s = [100, 114, 111, 112] then (2, 2) else if s = [109, 111, 118, 101] then (3, 3) else (0, 0)
def pathW (s : List UInt8) : Option (List UInt8) := if s = [47] then some [] else if s = [] ∨ isP s = false then none else some s
/-- the rule of words -/
def ruleW (ws : List (List UInt8)) : Option Ru :=
  if ws.length = (kindW (ws.getD 0 [])).2 then
    (pathW (ws.getD 1 [])).bind fun f => (pathW (ws.getD ((kindW (ws.getD 0 [])).2 - 1) [])).map fun t => ((kindW (ws.getD 0 [])).1, f, if (kindW (ws.getD 0 [])).1 = 3 then t else [])
  else none
/-- what a line says: what is wrong and where, nothing, or a rule -/
def lineG (l : List UInt8) : Except (Nat × Nat) (Option Ru) :=
  match wordsL l 0 with
  | .error p => .error (150, p)
  | .ok [] => .ok none
  | .ok (w :: r) => match ruleW (w :: r) with
    | none => .error (230, 0)
    | some x => .ok (some x)
/-- what is read of lines, behind some rules, from a place on -/
def readG : List (List UInt8) → List Ru → Nat → Except (Nat × Nat) (List Ru)
  | [], rs, _ => .ok rs
  | l :: ls, rs, b => match lineG l with
    | .error (e, p) => .error (e, b + p)
    | .ok none => readG ls rs (b + l.length + 1)
    | .ok (some r) => if rs.length = 64 then .error (3, b) else readG ls (rs ++ [r]) (b + l.length + 1)
def readT (t : List UInt8) : Except (Nat × Nat) (List Ru) := if 131072 < t.length then .error (3, 0) else readG (linesL t) [] 0

theorem kindW_cases (s : List UInt8) : kindW s = (1, 2) ∨ kindW s = (2, 2) ∨ kindW s = (3, 3) ∨ kindW s = (0, 0) := by
  unfold kindW
  split
  · exact .inl rfl
  · split
    · exact .inr (.inl rfl)
    · split
      · exact .inr (.inr (.inl rfl))
      · exact .inr (.inr (.inr rfl))
theorem pathW_isP {s p : List UInt8} (h : pathW s = some p) : isP p = true := by
  unfold pathW at h
  split at h
  · cases h; exact isP_nil
  · split at h
    · cases h
    · rename_i h2
      cases h
      cases e : isP s with
      | true => rfl
      | false => exact absurd (.inr e) h2
theorem pathW_wd {p : List UInt8} (h : isP p = true) : pathW (wdP p) = some p := by
  unfold wdP
  by_cases e : p = []
  · rw [if_pos e, e]; rfl
  · rw [if_neg e]
    unfold pathW
    have hs : p ≠ [47] := fun e' => by
      rw [e'] at h
      exact absurd h (by decide)
    rw [if_neg hs, if_neg (by rintro (h1 | h1); exact e h1; rw [h] at h1; cases h1)]
theorem ruleW_len {ws : List (List UInt8)} {r : Ru} (h : ruleW ws = some r) : 2 ≤ ws.length ∧ (r.1 = 1 ∨ r.1 = 2 ∨ r.1 = 3) := by
  unfold ruleW at h
  split at h
  · rename_i hl
    obtain ⟨f, hf, h⟩ := Option.bind_eq_some_iff.1 h
    obtain ⟨t, ht, h⟩ := Option.map_eq_some_iff.1 h
    rcases kindW_cases (ws.getD 0 []) with e | e | e | e
    · rw [e] at hl h; exact ⟨by omega, by rw [← h]; simp⟩
    · rw [e] at hl h; exact ⟨by omega, by rw [← h]; simp⟩
    · rw [e] at hl h; simp only at hl; exact ⟨by omega, by rw [← h]; simp⟩
    · rw [e] at hl
      have : ws = [] := List.eq_nil_of_length_eq_zero hl
      rw [this] at e
      have e0 : pathW (([] : List (List UInt8)).getD 1 []) = none := by decide
      rw [this, e0] at hf
      cases hf
  · cases h
theorem ruleW_ok {ws : List (List UInt8)} {r : Ru} (h : ruleW ws = some r) : okR r = true := by
  have hk := (ruleW_len h).2
  unfold ruleW at h
  split at h
  · obtain ⟨f, hf, h⟩ := Option.bind_eq_some_iff.1 h
    obtain ⟨t, ht, h⟩ := Option.map_eq_some_iff.1 h
    unfold okR
    rw [← h] at hk ⊢
    simp only at hk ⊢
    rw [pathW_isP hf]
    rcases hk with e | e | e
    · rw [e]; simp [isP_nil]
    · rw [e]; simp [isP_nil]
    · rw [e]; simp [pathW_isP ht]
  · cases h
theorem ruleW_ne {ws : List (List UInt8)} {r : Ru} (h : ruleW ws = some r) : r.1 ≠ 0 := by
  rcases (ruleW_len h).2 with e | e | e <;> rw [e] <;> decide
/-- a rule's words say the rule -/
theorem ruleW_ws {r : Ru} (h : okR r = true) : ruleW (wsR r) = some r := by
  obtain ⟨k, f, t⟩ := r
  unfold okR at h
  simp only [Bool.and_eq_true, Bool.or_eq_true, decide_eq_true_eq] at h
  obtain ⟨⟨hf, ht⟩, h⟩ := h
  rcases h with rfl | ⟨rfl | rfl, rfl⟩
  · show ruleW [[109, 111, 118, 101], wdP f, wdP t] = _
    unfold ruleW
    rw [if_pos (by rfl)]
    show (pathW (wdP f)).bind _ = _
    rw [pathW_wd hf]
    show (pathW (wdP t)).map _ = _
    rw [pathW_wd ht]
    rfl
  · show ruleW [[107, 101, 101, 112], wdP f] = _
    unfold ruleW
    rw [if_pos (by rfl)]
    show (pathW (wdP f)).bind (fun f' => (pathW (wdP f)).map _) = _
    rw [pathW_wd hf]
    rfl
  · show ruleW [[100, 114, 111, 112], wdP f] = _
    unfold ruleW
    rw [if_pos (by rfl)]
    show (pathW (wdP f)).bind (fun f' => (pathW (wdP f)).map _) = _
    rw [pathW_wd hf]
    rfl
theorem lineG_ws {l : List UInt8} {r : Ru} (hl : wordsL l 0 = .ok (wsR r)) (h : okR r = true) : lineG l = .ok (some r) := by
  have hr := ruleW_ws h
  unfold lineG
  rw [hl]
  cases hw : wsR r with
  | nil =>
    have := (ruleW_len hr).1
    rw [hw] at this
    exact absurd this (by decide)
  | cons a b =>
    show (match ruleW (a :: b) with | none => _ | some x => _) = _
    rw [← hw, hr]
theorem lineG_line {r : Ru} (h : okR r = true) : lineG (lineR r) = .ok (some r) := lineG_ws (wordsL_line _) h
theorem lineG_ok {l : List UInt8} {r : Ru} (h : lineG l = .ok (some r)) : okR r = true ∧ ∃ ws, wordsL l 0 = .ok ws ∧ ruleW ws = some r := by
  unfold lineG at h
  split at h
  · cases h
  · cases h
  · rename_i a b hw
    split at h
    · cases h
    · rename_i x hx
      cases h
      exact ⟨ruleW_ok hx, _, hw, hx⟩

/-- reading behind some rules: rules that are read ahead -/
theorem readG_ok : ∀ (ls : List (List UInt8)) (rs : List Ru) (b : Nat) (out : List Ru), readG ls rs b = .ok out → (∀ r ∈ rs, okR r = true) → rs.length ≤ 64 → (∀ r ∈ out, okR r = true) ∧ out.length ≤ 64
  | [], rs, b, out, h, hr, hl => by cases h; exact ⟨hr, hl⟩
  | l :: ls, rs, b, out, h, hr, hl => by
    unfold readG at h
    split at h
    · cases h
    · exact readG_ok ls rs _ out h hr hl
    · rename_i r he
      split at h
      · cases h
      · rename_i h64
        refine readG_ok ls (rs ++ [r]) _ out h ?_ ?_
        · intro x hx
          rcases List.mem_append.1 hx with hx | hx
          · exact hr x hx
          · rw [List.mem_singleton.1 hx]; exact (lineG_ok he).1
        · rw [List.length_append]; simp; omega
theorem readT_ok {t : List UInt8} {out : List Ru} (h : readT t = .ok out) : (∀ r ∈ out, okR r = true) ∧ out.length ≤ 64 := by
  unfold readT at h
  split at h
  · cases h
  · exact readG_ok _ _ _ _ h (by simp) (by simp)

theorem okq_ten : ∀ (k : Nat) (l : List UInt8), l.length ≤ k → okq l = true → (10 : UInt8) ∉ l
  | 0, l, h, _ => by
    have : l = [] := List.length_eq_zero_iff.1 (by omega)
    rw [this]; simp
  | k + 1, l, h, ho => by
    by_cases e : l = []
    · rw [e]; simp
    · rw [okq_go l e] at ho
      simp only [Bool.and_eq_true, Bool.not_eq_true', Bool.or_eq_false_iff] at ho
      obtain ⟨⟨h1, _⟩, h2⟩ := ho
      have h10 : (dec l).1 ≠ 10 := fun e' => by rw [e'] at h1; exact absurd h1 (by decide)
      have hd := drop_lt l e
      have ih := okq_ten k (l.drop (dec l).2) (by omega) h2
      rw [← List.take_append_drop (dec l).2 l, List.mem_append]
      rintro (hm | hm)
      · exact piece_ten l e h10 hm
      · exact ih hm
theorem plainF_ten : ∀ (k : Nat) (l : List UInt8), l.length ≤ k → plainF l = true → (10 : UInt8) ∉ l
  | 0, l, h, _ => by
    have : l = [] := List.length_eq_zero_iff.1 (by omega)
    rw [this]; simp
  | k + 1, l, h, ho => by
    by_cases e : l = []
    · rw [e]; simp
    · rw [plainF_go l e] at ho
      simp only [Bool.and_eq_true, Bool.not_eq_true', badw, Bool.or_eq_false_iff] at ho
      obtain ⟨⟨⟨_, h1⟩, _⟩, h2⟩ := ho
      have h10 : (dec l).1 ≠ 10 := fun e' => by rw [e'] at h1; exact absurd h1 (by decide)
      have hd := drop_lt l e
      have ih := plainF_ten k (l.drop (dec l).2) (by omega) h2
      rw [← List.take_append_drop (dec l).2 l, List.mem_append]
      rintro (hm | hm)
      · exact piece_ten l e h10 hm
      · exact ih hm
theorem quote_ten (s : List UInt8) : (10 : UInt8) ∉ quoteL s := okq_ten _ _ (Nat.le_refl _) (okq_quote s)
theorem word_ten (s : List UInt8) : (10 : UInt8) ∉ wordL s := by
  unfold wordL
  split
  · rename_i h
    unfold plainL at h
    simp only [Bool.and_eq_true] at h
    exact plainF_ten _ _ (Nat.le_refl _) h.2
  · exact quote_ten s
theorem tail_ten (ws : List (List UInt8)) : (10 : UInt8) ∉ tailL ws := by
  unfold tailL
  intro h
  obtain ⟨w, _, hw⟩ := List.mem_flatMap.1 h
  rcases List.mem_cons.1 hw with e | e
  · exact absurd e (by decide)
  · exact word_ten w e
theorem line_ten (ws : List (List UInt8)) : (10 : UInt8) ∉ lineL ws := by
  cases ws with
  | nil => simp [lineL]
  | cons w r =>
    rw [lineL, List.mem_append]
    rintro (h | h)
    · exact word_ten w h
    · exact tail_ten r h
/-- lines without a byte 10, with one behind each, are these lines -/
theorem lines_back : ∀ (ls : List (List UInt8)) (t : List UInt8), (∀ l ∈ ls, (10 : UInt8) ∉ l) → linesL (backL ls ++ t) = ls ++ linesL t
  | [], t, _ => rfl
  | l :: ls, t, h => by
    have ih := lines_back ls t (fun x hx => h x (by simp [hx]))
    have e : backL (l :: ls) ++ t = l ++ (10 :: (backL ls ++ t)) := by simp [backL]
    unfold linesL
    rw [e, cutN_run l [] _ (h l (by simp)), List.nil_append, cutN, if_pos rfl]
    show l :: linesL (backL ls ++ t) = _
    rw [ih]; rfl
theorem lines_one (l : List UInt8) (h : (10 : UInt8) ∉ l) (hl : l ≠ []) : linesL l = [l] := by
  have e := cutN_run l [] [] h
  rw [List.append_nil, List.nil_append] at e
  unfold linesL
  rw [e, cutN, if_neg hl]
/-- the text of rules -/
def textR (rs : List Ru) : List UInt8 := backL (rs.map lineR)
theorem textR_snoc (rs : List Ru) (r : Ru) : textR (rs ++ [r]) = textR rs ++ (lineR r ++ [10]) := by
  unfold textR; rw [List.map_append]; exact backL_snoc _ _
theorem lines_text (rs : List Ru) (t : List UInt8) : linesL (textR rs ++ t) = rs.map lineR ++ linesL t :=
  lines_back _ t (fun l hl => by
    obtain ⟨r, _, rfl⟩ := List.mem_map.1 hl
    exact line_ten _)
theorem readG_rules : ∀ (rs : List Ru) (ls : List (List UInt8)) (ahead : List Ru) (b : Nat), (∀ r ∈ rs, okR r = true) → ahead.length + rs.length ≤ 64 →
    readG (rs.map lineR ++ ls) ahead b = readG ls (ahead ++ rs) (b + (textR rs).length)
  | [], ls, ahead, b, _, _ => by simp [textR, backL]
  | r :: rs, ls, ahead, b, hr, hl => by
    rw [List.length_cons] at hl
    show readG (lineR r :: (rs.map lineR ++ ls)) ahead b = _
    rw [readG, lineG_line (hr r (by simp))]
    show (if ahead.length = 64 then _ else _) = _
    rw [if_neg (by omega), readG_rules rs ls (ahead ++ [r]) _ (fun x hx => hr x (by simp [hx])) (by rw [List.length_append]; simp; omega)]
    have e : (textR (r :: rs)).length = (lineR r).length + 1 + (textR rs).length := by simp [textR, backL]; omega
    rw [e, List.append_assoc]
    show readG ls (ahead ++ r :: rs) _ = _
    congr 1
    omega
theorem wdP_len {p : List UInt8} (h : isP p = true) : (wdP p).length ≤ 200 := by
  unfold wdP
  split
  · decide
  · exact ((isP_iff p).1 h).1
theorem lineR_len {r : Ru} (h : okR r = true) : (lineR r).length ≤ 1625 := by
  unfold okR at h
  simp only [Bool.and_eq_true] at h
  obtain ⟨⟨hf, ht⟩, _⟩ := h
  have h1 := wdP_len hf
  have h2 := wdP_len ht
  have := lineL_len (wsR r)
  unfold lineR
  have hw : ((wsR r).map List.length).sum ≤ 404 ∧ (wsR r).length ≤ 3 := by
    unfold wsR
    split
    · simp; omega
    · split
      · simp; omega
      · simp; omega
  omega
theorem textR_len : ∀ (rs : List Ru), (∀ r ∈ rs, okR r = true) → (textR rs).length ≤ 1626 * rs.length
  | [], _ => by simp [textR, backL]
  | r :: rs, h => by
    have e : (textR (r :: rs)).length = (lineR r).length + 1 + (textR rs).length := by simp [textR, backL]; omega
    have := textR_len rs (fun x hx => h x (by simp [hx]))
    have := lineR_len (h r (by simp))
    rw [e, List.length_cons]; omega
theorem lineR_ne (r : Ru) : lineR r ≠ [] := by
  intro e
  have h := wordsL_line (wsR r)
  rw [show lineL (wsR r) = [] from e, wordsL_nil] at h
  have h2 : [] = wsR r := Except.ok.inj h
  unfold wsR at h2
  split at h2
  · cases h2
  · split at h2 <;> cases h2
/-- rules that are printed are read as they are -/
theorem readT_text (rs : List Ru) (h : ∀ r ∈ rs, okR r = true) (hl : rs.length ≤ 64) : readT (textR rs) = .ok rs := by
  have h1 := textR_len rs h
  unfold readT
  rw [if_neg (by omega)]
  have e := lines_text rs []
  rw [List.append_nil] at e
  rw [e, readG_rules rs _ [] 0 h (by simpa using hl)]
  rfl
/-- one more than may be -/
theorem readT_more (rs : List Ru) (r : Ru) (h : ∀ x ∈ rs, okR x = true) (hl : rs.length = 64) (hr : okR r = true) : readT (textR rs ++ lineR r) = .error (3, (textR rs).length) := by
  have h1 := textR_len rs h
  have h2 := lineR_len hr
  unfold readT
  rw [if_neg (by rw [List.length_append]; omega), lines_text rs (lineR r), lines_one (lineR r) (line_ten _) (lineR_ne r), readG_rules rs _ [] 0 h (by simpa using (Nat.le_of_eq hl))]
  rw [readG, lineG_line hr]
  show (if ([] ++ rs).length = 64 then _ else _) = _
  rw [List.nil_append, if_pos hl, Nat.zero_add]
end Go.Proofs.YtggnglgehobglaaGreatDoor
