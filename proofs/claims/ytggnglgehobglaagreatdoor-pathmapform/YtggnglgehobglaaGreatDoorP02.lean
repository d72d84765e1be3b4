import Derived.Laws.RangeAny
/- Names and paths as rows of bytes: what the document says of them, and what follows. Of no program. -/
namespace Go.Proofs.YtggnglgehobglaaGreatDoor

/-! runes -/
theorem get_list (s : ByteArray) (n : Nat) : s.get! n = s.data.toList.getD n 0 := by
  obtain ⟨d⟩ := s
  show d[n]! = _
  rw [List.getD_eq_getElem?_getD, getElem!_def]
  show _ = (d.toList[n]?).getD 0
  rw [Array.getElem?_toList]
  cases d[n]? <;> rfl

/-- the rune at the front of these bytes, and its width -/
def dec (l : List UInt8) : Nat × Nat := Utf8.decode ⟨l.toArray⟩ 0

theorem decode_dec (s : ByteArray) (i : Nat) : Utf8.decode s i = dec (s.data.toList.drop i) := by
  have hg : ∀ k, (⟨(s.data.toList.drop i).toArray⟩ : ByteArray).get! (0 + k) = s.get! (i + k) := fun k => by
    rw [get_list, get_list]; simp
  have hz : ∀ k, (0 + k < (⟨(s.data.toList.drop i).toArray⟩ : ByteArray).size) = (i + k < s.size) := fun k => by
    have h1 : (⟨(s.data.toList.drop i).toArray⟩ : ByteArray).size = s.size - i := by
      show (s.data.toList.drop i).toArray.size = s.data.size - i
      simp
    rw [h1]
    exact propext ⟨fun h => by omega, fun h => by omega⟩
  unfold dec Utf8.decode
  simp only [hg, hz]

theorem dec_pos (l : List UInt8) : 1 ≤ (dec l).2 := by
  unfold dec
  simp only [Utf8.decode]
  repeat' split
  all_goals simp

theorem dec_le (l : List UInt8) (h : l ≠ []) : (dec l).2 ≤ l.length := by
  have hl : 1 ≤ l.length := by cases l with | nil => exact absurd rfl h | cons a t => simp
  have hz : (⟨l.toArray⟩ : ByteArray).size = l.length := by show l.toArray.size = _; simp
  unfold dec
  simp only [Utf8.decode, hz]
  repeat' split
  all_goals simp_all
  all_goals omega

theorem dec_ascii (c : UInt8) (t : List UInt8) (h : c.toNat < 128) : dec (c :: t) = (c.toNat, 1) := by
  have h0 : (⟨(c :: t).toArray⟩ : ByteArray).get! (0 + 0) = c := by rw [get_list]; simp
  unfold dec
  simp only [Utf8.decode, h0, h, if_true]

theorem dec_high (c : UInt8) (t : List UInt8) (h : 128 ≤ c.toNat) : 128 ≤ (dec (c :: t)).1 := by
  have h0 : (⟨(c :: t).toArray⟩ : ByteArray).get! (0 + 0) = c := by rw [get_list]; simp
  have hn : ¬ c.toNat < 128 := by omega
  unfold dec
  simp only [Utf8.decode, h0, hn, if_false]
  repeat' split
  all_goals simp_all [Utf8.runeError]
  all_goals omega

theorem dec_inner (l : List UInt8) (k : Nat) (h0 : 0 < k) (hk : k < (dec l).2) : 128 ≤ (l.getD k 0).toNat := by
  have hg : ∀ k, (⟨l.toArray⟩ : ByteArray).get! (0 + k) = l.getD k 0 := fun k => by rw [get_list]; simp
  unfold dec at hk
  simp only [Utf8.decode, hg] at hk
  have h4 : k = 1 ∨ k = 2 ∨ k = 3 ∨ 4 ≤ k := by omega
  revert hk
  repeat' split
  all_goals intro hk
  all_goals simp only at hk
  all_goals first
    | omega
    | (rename_i hx hy
       simp only [Bool.and_eq_true, beq_iff_eq, decide_eq_true_eq] at hx hy
       rcases h4 with rfl | rfl | rfl | h4 <;> omega)

theorem dec_slash (c : UInt8) (t : List UInt8) : (dec (c :: t)).1 = 47 ↔ c = 47 := by
  by_cases h : c.toNat < 128
  · rw [dec_ascii c t h]
    exact ⟨fun e => UInt8.toNat_inj.1 e, fun e => by rw [e]; rfl⟩
  · have := dec_high c t (by omega)
    exact ⟨fun e => by omega, fun e => by rw [e] at h; exact absurd (by decide) h⟩

/-! names -/
def fffd : List UInt8 := [239, 191, 189]
/-- may the rune at the front not stand in a name? -/
def bad (l : List UInt8) : Bool := decide ((dec l).1 < 32) || decide ((dec l).1 = 127) || decide ((dec l).1 = 47) || (decide ((dec l).1 = 65533) && !(fffd.isPrefixOf l))

theorem drop_lt (l : List UInt8) (h : ¬ l = []) : (l.drop (dec l).2).length < l.length := by
  have := dec_pos l
  have hl : 1 ≤ l.length := by cases l with | nil => exact absurd rfl h | cons a t => simp
  rw [List.length_drop]; omega

/-- the first wrong byte -/
def badAt (l : List UInt8) : Option Nat :=
  if l = [] then none else if bad l then some 0 else (badAt (l.drop (dec l).2)).map (· + (dec l).2)
termination_by l.length
decreasing_by exact drop_lt l (by assumption)

theorem badAt_nil : badAt [] = none := by rw [badAt]; simp
theorem badAt_bad (l : List UInt8) (h : l ≠ []) (hb : bad l = true) : badAt l = some 0 := by rw [badAt, if_neg h, if_pos hb]
theorem badAt_go (l : List UInt8) (h : l ≠ []) (hb : bad l = false) : badAt l = (badAt (l.drop (dec l).2)).map (· + (dec l).2) := by rw [badAt, if_neg h, if_neg (by simp [hb])]

theorem badAt_lt : ∀ (n : Nat) (l : List UInt8), l.length ≤ n → ∀ k, badAt l = some k → k < l.length
  | 0, l, h, k, hk => by
    have : l = [] := List.length_eq_zero_iff.1 (by omega)
    rw [this, badAt_nil] at hk; cases hk
  | n + 1, l, h, k, hk => by
    by_cases e : l = []
    · rw [e, badAt_nil] at hk; cases hk
    · have hl : 1 ≤ l.length := by cases l with | nil => exact absurd rfl e | cons a t => simp
      cases hb : bad l with
      | true => rw [badAt_bad l e hb] at hk; cases hk; omega
      | false =>
        rw [badAt_go l e hb] at hk
        cases hr : badAt (l.drop (dec l).2) with
        | none => rw [hr] at hk; cases hk
        | some j =>
          rw [hr] at hk
          obtain rfl : j + (dec l).2 = k := by simpa using hk
          have := badAt_lt n _ (by have := drop_lt l e; omega) j hr
          rw [List.length_drop] at this
          have := dec_pos l; omega

theorem badAt_bytes : ∀ (n : Nat) (l : List UInt8), l.length ≤ n → badAt l = none → ∀ k, k < l.length → 32 ≤ (l.getD k 0).toNat ∧ (l.getD k 0).toNat ≠ 47
  | 0, l, h, _, k, hk => by omega
  | n + 1, l, h, hn, k, hk => by
    have e : l ≠ [] := by rintro rfl; simp at hk
    cases hb : bad l with
    | true => rw [badAt_bad l e hb] at hn; cases hn
    | false =>
      rw [badAt_go l e hb] at hn
      have hn' : badAt (l.drop (dec l).2) = none := by
        cases hr : badAt (l.drop (dec l).2) with
        | none => rfl
        | some j => rw [hr] at hn; cases hn
      by_cases hw : k < (dec l).2
      · by_cases h0 : 0 < k
        · have := dec_inner l k h0 hw; omega
        · obtain rfl : k = 0 := by omega
          cases l with
          | nil => exact absurd rfl e
          | cons c t =>
            simp only [List.getD_cons_zero]
            simp only [bad, Bool.or_eq_false_iff, decide_eq_false_iff_not] at hb
            by_cases hc : c.toNat < 128
            · rw [dec_ascii c t hc] at hb
              simp only at hb
              omega
            · omega
      · have := badAt_bytes n _ (by have := drop_lt l e; omega) hn' (k - (dec l).2) (by rw [List.length_drop]; omega)
        rw [List.getD_eq_getElem?_getD, List.getElem?_drop, show (dec l).2 + (k - (dec l).2) = k by omega, ← List.getD_eq_getElem?_getD] at this
        exact this

/-- what is wrong with a name -/
def spot (l : List UInt8) : Nat × Nat := if l = [] ∨ l = [46] ∨ l = [46, 46] then (140, 0) else if 32 < l.length then (3, 32) else match badAt l with
  | some k => (140, k)
  | none => (0, 0)
def okName (l : List UInt8) : Bool := (spot l).1 == 0

theorem spot_none (l : List UInt8) (h : okName l = true) : spot l = (0, 0) := by
  simp only [okName, spot, beq_iff_eq] at h ⊢
  split at h
  · cases h
  · rename_i h1
    rw [if_neg h1]
    split at h
    · cases h
    · rename_i h2
      rw [if_neg h2]
      cases hb : badAt l with
      | none => rfl
      | some k => rw [hb] at h; cases h
theorem spot_le (l : List UInt8) : (spot l).2 ≤ l.length ∧ (spot l).2 ≤ 32 := by
  unfold spot
  split
  · simp
  · split
    · simp; omega
    · cases hb : badAt l with
      | none => simp
      | some k => have := badAt_lt _ l (Nat.le_refl _) k hb; simp; omega
theorem spot_err (l : List UInt8) : (spot l).1 = 0 ∨ (spot l).1 = 140 ∨ (spot l).1 = 3 := by
  unfold spot
  split
  · simp
  · split
    · simp
    · cases hb : badAt l <;> simp

theorem okName_parts (l : List UInt8) (h : okName l = true) : l ≠ [] ∧ l.length ≤ 32 ∧ badAt l = none := by
  simp only [okName, spot, beq_iff_eq] at h
  split at h
  · cases h
  · rename_i h1
    split at h
    · cases h
    · refine ⟨fun e => h1 (.inl e), by omega, ?_⟩
      cases hb : badAt l with
      | none => rfl
      | some k => rw [hb] at h; cases h
theorem okName_bytes (l : List UInt8) (h : okName l = true) (c : UInt8) (hc : c ∈ l) : 32 ≤ c.toNat ∧ c ≠ 47 := by
  obtain ⟨k, hk, e⟩ := List.getElem_of_mem hc
  have := badAt_bytes _ l (Nat.le_refl _) (okName_parts l h).2.2 k hk
  rw [List.getD_eq_getElem?_getD, List.getElem?_eq_getElem hk, Option.getD_some, e] at this
  exact ⟨this.1, fun e => this.2 (by rw [e]; rfl)⟩
theorem okName_slash (l : List UInt8) (h : okName l = true) : (47 : UInt8) ∉ l := fun hc => (okName_bytes l h _ hc).2 rfl

/-! paths -/
/-- what stands between the strokes, the bytes `cur` being ahead -/
def cutS : List UInt8 → List UInt8 → List (List UInt8)
  | cur, [] => [cur]
  | cur, c :: t => if c = 47 then cur :: cutS [] t else cutS (cur ++ [c]) t
def parts (l : List UInt8) : List (List UInt8) := if l = [] then [] else cutS [] l
def glue (ns : List (List UInt8)) : List UInt8 := [47].intercalate ns
/-- pieces, each with its place -/
def offs : Nat → List (List UInt8) → List (Nat × List UInt8)
  | _, [] => []
  | b, n :: r => (b, n) :: offs (b + n.length + 1) r
def pcs (l : List UInt8) : List (Nat × List UInt8) := offs 0 (parts l)

theorem cutS_ne (cur l : List UInt8) : cutS cur l ≠ [] := by
  induction l generalizing cur with
  | nil => simp [cutS]
  | cons c t ih =>
    unfold cutS
    split
    · simp
    · exact ih _
theorem cutS_run (cur n r : List UInt8) (h : (47 : UInt8) ∉ n) : cutS cur (n ++ r) = cutS (cur ++ n) r := by
  induction n generalizing cur with
  | nil => simp
  | cons c t ih =>
    simp only [List.mem_cons, not_or] at h
    rw [List.cons_append, cutS, if_neg (fun e => h.1 e.symm), ih _ h.2]
    simp
theorem cutS_end (cur n : List UInt8) (h : (47 : UInt8) ∉ n) : cutS cur n = [cur ++ n] := by
  have := cutS_run cur n [] h
  rw [List.append_nil] at this
  rw [this]; rfl
theorem cutS_stroke (cur n r : List UInt8) (h : (47 : UInt8) ∉ n) : cutS cur (n ++ 47 :: r) = (cur ++ n) :: cutS [] r := by
  rw [cutS_run cur n _ h, cutS, if_pos rfl]

theorem glue_nil : glue [] = [] := rfl
theorem glue_one (n : List UInt8) : glue [n] = n := by simp [glue, List.intercalate]
theorem glue_cons (n : List UInt8) (r : List (List UInt8)) (h : r ≠ []) : glue (n :: r) = n ++ 47 :: glue r := by
  cases r with
  | nil => exact absurd rfl h
  | cons m s => simp [glue, List.intercalate, List.intersperse]
theorem glue_cut (cur l : List UInt8) : glue (cutS cur l) = cur ++ l := by
  induction l generalizing cur with
  | nil => simp [cutS, glue_one]
  | cons c t ih =>
    unfold cutS
    split
    · rename_i e
      rw [glue_cons _ _ (cutS_ne _ _), ih, e]; rfl
    · rw [ih]; simp
theorem glue_parts (l : List UInt8) : glue (parts l) = l := by
  unfold parts
  split
  · rename_i e; rw [e]; rfl
  · rw [glue_cut]; rfl
theorem glue_append (A B : List (List UInt8)) (hA : A ≠ []) (hB : B ≠ []) : glue (A ++ B) = glue A ++ 47 :: glue B := by
  induction A with
  | nil => exact absurd rfl hA
  | cons n r ih =>
    cases r with
    | nil => rw [List.singleton_append, glue_cons _ _ hB, glue_one]
    | cons m s =>
      rw [List.cons_append, glue_cons _ _ (by simp), ih (by simp), glue_cons n (m :: s) (by simp)]
      simp
def NoStroke (ns : List (List UInt8)) : Prop := ∀ n ∈ ns, (47 : UInt8) ∉ n
theorem cut_glue (A : List (List UInt8)) (r : List UInt8) (hA : A ≠ []) (h : NoStroke A) : cutS [] (glue A ++ 47 :: r) = A ++ cutS [] r := by
  induction A with
  | nil => exact absurd rfl hA
  | cons n s ih =>
    have hn := h n (by simp)
    cases s with
    | nil => rw [glue_one, cutS_stroke _ _ _ hn]; rfl
    | cons m t =>
      rw [glue_cons _ _ (by simp), List.append_assoc, List.cons_append, cutS_stroke _ _ _ hn, ih (by simp) (fun x hx => h x (by simp [hx]))]; rfl
theorem cut_glue_end (A : List (List UInt8)) (hA : A ≠ []) (h : NoStroke A) : cutS [] (glue A) = A := by
  induction A with
  | nil => exact absurd rfl hA
  | cons n s ih =>
    have hn := h n (by simp)
    cases s with
    | nil => rw [glue_one, cutS_end _ _ hn]; rfl
    | cons m t =>
      rw [glue_cons _ _ (by simp), cutS_stroke _ _ _ hn, ih (by simp) (fun x hx => h x (by simp [hx]))]; rfl
/-- names that may be -/
def Good (ns : List (List UInt8)) : Prop := ∀ n ∈ ns, okName n = true
theorem Good.noStroke {ns : List (List UInt8)} (h : Good ns) : NoStroke ns := fun n hn => okName_slash n (h n hn)
theorem glue_ne (A : List (List UInt8)) (hA : A ≠ []) (h : Good A) : glue A ≠ [] := by
  cases A with
  | nil => exact absurd rfl hA
  | cons n r =>
    have hn := (okName_parts n (h n (by simp))).1
    cases r with
    | nil => rw [glue_one]; exact hn
    | cons m s => rw [glue_cons _ _ (by simp)]; simp
theorem parts_glue (A : List (List UInt8)) (h : Good A) : parts (glue A) = A := by
  unfold parts
  by_cases hA : A = []
  · rw [hA]; rfl
  · rw [if_neg (glue_ne A hA h), cut_glue_end A hA h.noStroke]

/-- what is wrong with a path -/
def pathFrom : List (List UInt8) → Nat → Nat → Nat × Nat
  | [], _, _ => (0, 0)
  | n :: r, i, p => if i = 16 then (3, p) else if okName n then pathFrom r (i + 1) (p + n.length + 1) else ((spot n).1, p + (spot n).2)
def pathSpot (l : List UInt8) : Nat × Nat := if 200 < l.length then (3, 200) else pathFrom (parts l) 0 0
def isP (l : List UInt8) : Bool := (pathSpot l).1 == 0

theorem pathFrom_ok (ns : List (List UInt8)) (i p : Nat) (hi : i ≤ 16) : (pathFrom ns i p).1 = 0 ↔ Good ns ∧ i + ns.length ≤ 16 := by
  induction ns generalizing i p with
  | nil => simp [pathFrom, Good]; omega
  | cons n r ih =>
    unfold pathFrom
    by_cases h16 : i = 16
    · rw [if_pos h16]; simp; intro; omega
    · rw [if_neg h16]
      by_cases ho : okName n = true
      · rw [if_pos ho, ih (i + 1) _ (by omega)]
        simp only [Good, List.mem_cons, forall_eq_or_imp, List.length_cons]
        constructor
        · rintro ⟨h1, h2⟩; exact ⟨⟨ho, h1⟩, by omega⟩
        · rintro ⟨⟨_, h1⟩, h2⟩; exact ⟨h1, by omega⟩
      · rw [if_neg ho]
        constructor
        · intro e; exact absurd (by simpa [okName] using e) ho
        · rintro ⟨h1, _⟩; exact absurd (h1 n (by simp)) ho
theorem isP_iff (l : List UInt8) : isP l = true ↔ l.length ≤ 200 ∧ Good (parts l) ∧ (parts l).length ≤ 16 := by
  unfold isP pathSpot
  rw [beq_iff_eq]
  split
  · rename_i h; simp; intro; omega
  · rename_i h
    rw [pathFrom_ok _ 0 0 (by omega)]
    simp only [Nat.zero_add]
    constructor
    · exact fun h => ⟨by omega, h⟩
    · exact fun h => h.2
theorem isP_glue (A : List (List UInt8)) (h : Good A) : isP (glue A) = true ↔ (glue A).length ≤ 200 ∧ A.length ≤ 16 := by
  rw [isP_iff, parts_glue A h]
  exact ⟨fun h => ⟨h.1, h.2.2⟩, fun k => ⟨k.1, h, k.2⟩⟩
theorem isP_good {l : List UInt8} (h : isP l = true) : Good (parts l) := ((isP_iff l).1 h).2.1
theorem isP_nil : isP [] = true := by decide

/-! what lies in what -/
def restP (p q : List UInt8) : Option (List UInt8) := if q = [] then some p else if q = p then some [] else if (q ++ [47]).isPrefixOf p then some (p.drop (q.length + 1)) else none

theorem restP_glue (A B : List (List UInt8)) (hA : Good A) (hB : Good B) : restP (glue A) (glue B) = if B <+: A then some (glue (A.drop B.length)) else none := by
  unfold restP
  by_cases h0 : B = []
  · subst h0
    simp [glue_nil]
  · rw [if_neg (glue_ne B h0 hB)]
    by_cases h1 : glue B = glue A
    · have e : B = A := by rw [← parts_glue B hB, h1, parts_glue A hA]
      subst e
      rw [if_pos rfl, if_pos (List.prefix_refl _), List.drop_length]; rfl
    · rw [if_neg h1]
      by_cases h2 : (glue B ++ [47]) <+: glue A
      · rw [if_pos (List.isPrefixOf_iff_prefix.2 h2)]
        obtain ⟨r, hr⟩ := h2
        rw [List.append_assoc, List.singleton_append] at hr
        have hAe : A ≠ [] := by rintro rfl; rw [glue_nil] at hr; simp at hr
        have e : A = B ++ cutS [] r := by rw [← cut_glue B r h0 hB.noStroke, hr, cut_glue_end A hAe hA.noStroke]
        rw [if_pos (e ▸ List.prefix_append _ _), ← hr]
        congr 1
        rw [show (glue B).length + 1 = (glue B ++ [47]).length by simp, show glue B ++ 47 :: r = (glue B ++ [47]) ++ r by simp, List.drop_left, e, List.drop_left, glue_cut]; rfl
      · rw [if_neg (fun h => h2 (List.isPrefixOf_iff_prefix.1 h)), if_neg]
        rintro ⟨C, rfl⟩
        by_cases hC : C = []
        · subst hC; simp at h1
        · rw [glue_append _ _ h0 hC] at h2
          exact h2 ⟨glue C, by simp⟩
theorem restP_parts (p q : List UInt8) (hp : isP p = true) (hq : isP q = true) : restP p q = if parts q <+: parts p then some (glue ((parts p).drop (parts q).length)) else none := by
  have := restP_glue (parts p) (parts q) (isP_good hp) (isP_good hq)
  rw [glue_parts, glue_parts] at this
  exact this

/-- does p lie in q? -/
def inP (p q : List UInt8) : Bool := isP p && isP q && (restP p q).isSome
theorem inP_iff (p q : List UInt8) : inP p q = true ↔ isP p = true ∧ isP q = true ∧ parts q <+: parts p := by
  unfold inP
  rw [Bool.and_eq_true, Bool.and_eq_true, and_assoc]
  constructor
  · rintro ⟨h1, h2, h3⟩
    refine ⟨h1, h2, ?_⟩
    rw [restP_parts p q h1 h2] at h3
    split at h3
    · assumption
    · cases h3
  · rintro ⟨h1, h2, h3⟩
    refine ⟨h1, h2, ?_⟩
    rw [restP_parts p q h1 h2, if_pos h3]; rfl

/-- two paths put together -/
def joinP (p q : List UInt8) : Option (List UInt8) := if p = [] then some q else if q = [] then some p else if 16 < (parts p).length + (parts q).length ∨ 200 < p.length + 1 + q.length then none else some (p ++ 47 :: q)
theorem parts_nil : parts [] = [] := rfl
theorem parts_ne {p : List UInt8} (h : p ≠ []) : parts p ≠ [] := by unfold parts; rw [if_neg h]; exact cutS_ne _ _
theorem Good.append {A B : List (List UInt8)} (hA : Good A) (hB : Good B) : Good (A ++ B) := fun n hn => (List.mem_append.1 hn).elim (hA n) (hB n)
theorem Good.sub {A B : List (List UInt8)} (hA : Good A) (h : ∀ n ∈ B, n ∈ A) : Good B := fun n hn => hA n (h n hn)
theorem joinP_parts (p q : List UInt8) (hp : isP p = true) (hq : isP q = true) : joinP p q = if isP (glue (parts p ++ parts q)) = true then some (glue (parts p ++ parts q)) else none := by
  unfold joinP
  by_cases h1 : p = []
  · subst h1
    rw [if_pos rfl, parts_nil, List.nil_append, glue_parts, if_pos hq]
  · rw [if_neg h1]
    by_cases h2 : q = []
    · subst h2
      rw [if_pos rfl, parts_nil, List.append_nil, glue_parts, if_pos hp]
    · rw [if_neg h2]
      have hg : glue (parts p ++ parts q) = p ++ 47 :: q := by rw [glue_append _ _ (parts_ne h1) (parts_ne h2), glue_parts, glue_parts]
      have hi := isP_glue (parts p ++ parts q) ((isP_good hp).append (isP_good hq))
      rw [hg] at hi ⊢
      rw [List.length_append, List.length_append, List.length_cons] at hi
      by_cases h3 : 16 < (parts p).length + (parts q).length ∨ 200 < p.length + 1 + q.length
      · rw [if_pos h3, if_neg]
        intro h; have := hi.1 h; omega
      · rw [if_neg h3, if_pos (hi.2 (by omega))]

/-- a path moved: the error's number, and the path -/
def firstP : List (List UInt8) → Nat
  | [] => 0
  | p :: r => if isP p then firstP r else (pathSpot p).1
def moveP (p q t : List UInt8) : List UInt8 × Nat := if firstP [p, q, t] ≠ 0 then ([], firstP [p, q, t]) else match restP p q with
  | none => ([], 141)
  | some r => match joinP t r with
    | none => ([], 3)
    | some x => (x, 0)

/-- the names that two begin with -/
def lcp : List (List UInt8) → List (List UInt8) → List (List UInt8)
  | a :: s, b :: t => if a = b then a :: lcp s t else []
  | _, _ => []
theorem lcp_left : ∀ A B, lcp A B <+: A
  | [], _ => by simp [lcp]
  | a :: s, [] => by simp [lcp]
  | a :: s, b :: t => by
    unfold lcp
    split
    · exact List.cons_prefix_cons.2 ⟨rfl, lcp_left s t⟩
    · exact List.nil_prefix
theorem lcp_right : ∀ A B, lcp A B <+: B
  | [], _ => by simp [lcp]
  | a :: s, [] => by simp [lcp]
  | a :: s, b :: t => by
    unfold lcp
    split
    · rename_i e; exact List.cons_prefix_cons.2 ⟨e, lcp_right s t⟩
    · exact List.nil_prefix
theorem lcp_least : ∀ A B C, C <+: A → C <+: B → C <+: lcp A B
  | _, _, [], _, _ => List.nil_prefix
  | [], _, c :: u, h, _ => by simp at h
  | _ :: _, [], c :: u, _, h => by simp at h
  | a :: s, b :: t, c :: u, h1, h2 => by
    have e1 := List.cons_prefix_cons.1 h1
    have e2 := List.cons_prefix_cons.1 h2
    unfold lcp
    rw [if_pos (e1.1.symm.trans e2.1)]
    exact List.cons_prefix_cons.2 ⟨e1.1, lcp_least s t u e1.2 e2.2⟩
def comP (a b : List UInt8) : List UInt8 := if isP a && isP b then glue (lcp (parts a) (parts b)) else []

theorem glue_pre_len : ∀ (A B : List (List UInt8)), A <+: B → (glue A).length ≤ (glue B).length := by
  rintro A _ ⟨C, rfl⟩
  by_cases hA : A = []
  · subst hA; simp [glue_nil]
  · by_cases hC : C = []
    · subst hC; simp
    · rw [glue_append _ _ hA hC]; simp
theorem isP_prefix (A B : List (List UInt8)) (h : A <+: B) (hB : Good B) (hi : isP (glue B) = true) : isP (glue A) = true := by
  have hA : Good A := hB.sub (fun n hn => h.subset hn)
  have := (isP_glue B hB).1 hi
  exact (isP_glue A hA).2 ⟨Nat.le_trans (glue_pre_len A B h) this.1, Nat.le_trans h.length_le this.2⟩
theorem comP_parts (a b : List UInt8) (ha : isP a = true) (hb : isP b = true) : isP (comP a b) = true ∧ parts (comP a b) = lcp (parts a) (parts b) := by
  unfold comP
  rw [ha, hb]
  simp only [Bool.and_self, if_true]
  have hg : Good (lcp (parts a) (parts b)) := (isP_good ha).sub (fun n hn => (lcp_left _ _).subset hn)
  refine ⟨isP_prefix _ _ (lcp_left _ _) (isP_good ha) (by rw [glue_parts]; exact ha), parts_glue _ hg⟩
end Go.Proofs.YtggnglgehobglaaGreatDoor
