import Derived.Test.YtggnglgehobglaaL24
/- Images and sources by rules that agree, plain: rows as lists of names. -/
namespace Go.Proofs.Ytggnglgehobglaa

abbrev Rw := List (List UInt8)
theorem joinR_glue (A B : Rw) (hA : Good A) (hB : Good B) : joinR (glue A) (glue B) = glue (A ++ B) := by
  unfold joinR
  by_cases h1 : A = []
  · subst h1; rw [if_pos (.inl glue_nil)]; simp [glue_nil]
  · by_cases h2 : B = []
    · subst h2; rw [if_pos (.inr glue_nil)]; simp [glue_nil]
    · rw [if_neg (fun h => h.elim (glue_ne A h1 hA) (glue_ne B h2 hB)), glue_append A B h1 h2]
theorem begS_glue : ∀ (A : Rw) (acc : List UInt8), NoStroke A → ∀ l ∈ begS acc (glue A), ∃ i, i < A.length ∧ 0 < i ∧ l = acc ++ glue (A.take i)
  | [], acc, _, l, hl => by rw [glue_nil] at hl; cases hl
  | [n], acc, h, l, hl => by
    rw [glue_one] at hl
    have := begS_run n acc [] (h n (by simp))
    rw [List.append_nil] at this
    rw [this] at hl
    cases hl
  | n :: m :: r, acc, h, l, hl => by
    rw [glue_cons n (m :: r) (by simp), begS_run n acc _ (h n (by simp))] at hl
    simp only [begS, if_true, List.mem_cons] at hl
    rcases hl with rfl | hl
    · exact ⟨1, by simp, by omega, by simp [glue_one]⟩
    · obtain ⟨i, hi, hi0, rfl⟩ := begS_glue (m :: r) (acc ++ n ++ [47]) (fun x hx => h x (by simp at hx ⊢; exact .inr hx)) l hl
      refine ⟨i + 1, by simpa using hi, by omega, ?_⟩
      rw [List.take_succ_cons, glue_cons _ _ (by
        intro e
        have := congrArg List.length e
        rw [List.length_take] at this
        simp at this hi
        omega)]
      simp
theorem begL_glue (A : Rw) (h : NoStroke A) : ∀ l ∈ begL (glue A), ∃ i, i ≤ A.length ∧ l = glue (A.take i) := by
  intro l hl
  unfold begL at hl
  split at hl
  · cases hl
  · rcases List.mem_cons.1 hl with rfl | hl
    · exact ⟨0, Nat.zero_le _, by simp [glue_nil]⟩
    · obtain ⟨i, hi, _, e⟩ := begS_glue A [] h l hl
      exact ⟨i, by omega, by simpa using e⟩
/-- the rule of a row stands at one of its beginnings -/
theorem ruleT_pre {F : List Ru} {A : Rw} (hA : Good A) : ruleT (tabL F) (glue A) = noR ∨ (ruleT (tabL F) (glue A) ∈ F ∧ ∃ i, i ≤ A.length ∧ (ruleT (tabL F) (glue A)).2.1 = glue (A.take i)) := by
  unfold ruleT
  cases h : tabL F (glue A) with
  | some r => exact .inr ⟨(tabL_mem F _ r h).1, A.length, Nat.le_refl _, by rw [List.take_length]; exact (tabL_mem F _ r h).2⟩
  | none =>
    rcases lastT_mem (tabL F) (begL (glue A)) with e | ⟨k, hk, e⟩
    · exact .inl e
    · obtain ⟨i, hi, ek⟩ := begL_glue A hA.noStroke k hk
      exact .inr ⟨(tabL_mem F k _ e).1, i, hi, (tabL_mem F k _ e).2.trans ek⟩
theorem Good.take {A : Rw} (h : Good A) (i : Nat) : Good (A.take i) := fun n hn => h n (List.mem_of_mem_take hn)
theorem Good.drop {A : Rw} (h : Good A) (i : Nat) : Good (A.drop i) := fun n hn => h n (List.mem_of_mem_drop hn)
theorem Good.app {A B : Rw} (h : Good A) (k : Good B) : Good (A ++ B) := fun n hn => (List.mem_append.1 hn).elim (h n) (k n)
/-- a rule at names: From and To -/
def frN (r : Ru) : Rw := parts r.2.1
def toN (r : Ru) : Rw := parts (tgtR r)
theorem frN_good {r : Ru} (h : PthR r) : Good (frN r) := isP_good h.1
theorem toN_good {r : Ru} (h : PthR r) : Good (toN r) := isP_good (tgtR_isP h)
theorem glue_fr (r : Ru) : glue (frN r) = r.2.1 := glue_parts _
theorem glue_to (r : Ru) : glue (toN r) = tgtR r := glue_parts _
/-- rules that agree, two by two -/
def AgrF (F : List Ru) : Prop := ∀ r ∈ F, ∀ s ∈ F, letsK r.1 = true → letsK s.1 = true → restP r.2.1 s.2.1 = restP (tgtR r) (tgtR s)
theorem agr_names {F : List Ru} (hF : FOk F) (hA : AgrF F) {r s : Ru} (hr : r ∈ F) (hs : s ∈ F) (lr : letsK r.1 = true) (ls : letsK s.1 = true) : (frN s <+: frN r ↔ toN s <+: toN r) ∧ (frN s <+: frN r → (frN r).drop (frN s).length = (toN r).drop (toN s).length) := by
  have h := hA r hr s hs lr ls
  rw [← glue_fr r, ← glue_fr s, ← glue_to r, ← glue_to s, restP_glue _ _ (frN_good (hF r hr)) (frN_good (hF s hs)), restP_glue _ _ (toN_good (hF r hr)) (toN_good (hF s hs))] at h
  by_cases h1 : frN s <+: frN r
  · rw [if_pos h1] at h
    by_cases h2 : toN s <+: toN r
    · rw [if_pos h2] at h
      refine ⟨⟨fun _ => h2, fun _ => h1⟩, fun _ => ?_⟩
      have e := congrArg parts (Option.some.inj h)
      rw [parts_glue _ ((frN_good (hF r hr)).drop _), parts_glue _ ((toN_good (hF r hr)).drop _)] at e
      exact e
    · rw [if_neg h2] at h; cases h
  · rw [if_neg h1] at h
    by_cases h2 : toN s <+: toN r
    · rw [if_pos h2] at h; cases h
    · exact ⟨⟨fun k => absurd k h1, fun k => absurd k h2⟩, fun k => absurd k h1⟩
/-- what lies in a From goes to where it lies in the To: the shape that both have -/
theorem agr_shape {F : List Ru} (hF : FOk F) (hA : AgrF F) {r s : Ru} (hr : r ∈ F) (hs : s ∈ F) (lr : letsK r.1 = true) (ls : letsK s.1 = true) (h : frN s <+: frN r ∨ toN s <+: toN r) : ∃ d, frN r = frN s ++ d ∧ toN r = toN s ++ d := by
  obtain ⟨h1, h2⟩ := agr_names hF hA hr hs lr ls
  have hf : frN s <+: frN r := h.elim id h1.2
  have ht := h1.1 hf
  have he := h2 hf
  obtain ⟨d, hd⟩ := hf
  obtain ⟨d', hd'⟩ := ht
  rw [← hd, ← hd', List.drop_left, List.drop_left] at he
  exact ⟨d, hd.symm, by rw [he]; exact hd'.symm⟩
theorem img_shape {F : List Ru} (hF : FOk F) {A : Rw} (hA : Good A) {x : List UInt8} (h : imgL F (glue A) = some x) : ∃ r ∈ F, letsK r.1 = true ∧ ∃ d, A = frN r ++ d ∧ x = glue (toN r ++ d) := by
  unfold imgL at h
  rcases ruleT_pre (F := F) hA with e | ⟨hm, i, hi, e⟩
  · rw [e] at h; cases h
  · generalize ruleT (tabL F) (glue A) = r at *
    by_cases hl : letsK r.1 = true
    · rw [if_pos hl] at h
      have hfr : frN r = A.take i := by unfold frN; rw [e, parts_glue _ (hA.take i)]
      refine ⟨r, hm, hl, A.drop i, by rw [hfr, List.take_append_drop], ?_⟩
      have h' := (Option.some.inj h).symm
      rw [h', ← glue_to r, e, restP_glue A (A.take i) hA (hA.take i), if_pos (List.take_prefix i A), Option.getD_some, List.length_take, Nat.min_eq_left hi, joinR_glue _ _ (toN_good (hF r hm)) (hA.drop i)]
    · rw [if_neg hl] at h; cases h
theorem img_lets {F : List Ru} {l x : List UInt8} (h : imgL F l = some x) : letsK (ruleT (tabL F) l).1 = true := by
  unfold imgL at h
  split at h
  · assumption
  · cases h
theorem prefix_pair {α : Type} {a b x y : List α} (h : a ++ x = b ++ y) : a <+: b ∨ b <+: a := by
  rcases List.append_eq_append_iff.1 h with ⟨d, e, _⟩ | ⟨d, e, _⟩
  · exact .inl ⟨d, e.symm⟩
  · exact .inr ⟨d, e.symm⟩
/-- two rules' shapes on one row, or on one image, lead to the same -/
theorem shape_same {F : List Ru} (hF : FOk F) (hA : AgrF F) {r s : Ru} (hr : r ∈ F) (hs : s ∈ F) (lr : letsK r.1 = true) (ls : letsK s.1 = true) {d e : Rw} : frN r ++ d = frN s ++ e ↔ toN r ++ d = toN s ++ e := by
  constructor
  · intro h
    rcases prefix_pair h with k | k
    · obtain ⟨c, h1, h2⟩ := agr_shape hF hA hs hr ls lr (.inl k)
      rw [h1, List.append_assoc] at h
      rw [h2, List.append_assoc, List.append_cancel_left h]
    · obtain ⟨c, h1, h2⟩ := agr_shape hF hA hr hs lr ls (.inl k)
      rw [h1, List.append_assoc] at h
      rw [h2, List.append_assoc, List.append_cancel_left h]
  · intro h
    rcases prefix_pair h with k | k
    · obtain ⟨c, h1, h2⟩ := agr_shape hF hA hs hr ls lr (.inr k)
      rw [h2, List.append_assoc] at h
      rw [h1, List.append_assoc, List.append_cancel_left h]
    · obtain ⟨c, h1, h2⟩ := agr_shape hF hA hr hs lr ls (.inr k)
      rw [h2, List.append_assoc] at h
      rw [h1, List.append_assoc, List.append_cancel_left h]
theorem shape_in {F : List Ru} (hF : FOk F) (hA : AgrF F) {r s : Ru} (hr : r ∈ F) (hs : s ∈ F) (lr : letsK r.1 = true) (ls : letsK s.1 = true) {d e : Rw} : frN s ++ e <+: frN r ++ d ↔ toN s ++ e <+: toN r ++ d := by
  constructor
  · rintro ⟨t, h⟩
    refine ⟨t, ?_⟩
    rw [List.append_assoc] at h ⊢
    exact (shape_same hF hA hs hr ls lr).1 h
  · rintro ⟨t, h⟩
    refine ⟨t, ?_⟩
    rw [List.append_assoc] at h ⊢
    exact (shape_same hF hA hs hr ls lr).2 h
/-- source, at names: by the first rule in whose To it lies -/
theorem src_some {F : List Ru} (G : List Ru) (hG : ∀ r ∈ G, r ∈ F) (hF : FOk F) {X : Rw} (hX : Good X) {l : List UInt8} (h : srcR F G (glue X) = some l) : ∃ r ∈ F, letsK r.1 = true ∧ ∃ d, X = toN r ++ d ∧ l = glue (frN r ++ d) ∧ letsK (ruleT (tabL F) l).1 = true := by
  induction G with
  | nil => cases h
  | cons r G ih =>
    have hr := hG r (by simp)
    have ih' := ih (fun s hs => hG s (by simp [hs]))
    simp only [srcR] at h
    by_cases hl : letsK r.1 = true
    · rw [if_pos hl, ← glue_to r, restP_glue X (toN r) hX (toN_good (hF r hr))] at h
      by_cases hp : toN r <+: X
      · rw [if_pos hp] at h
        obtain ⟨d, hd⟩ := hp
        have e : X.drop (toN r).length = d := by rw [← hd, List.drop_left]
        simp only [e] at h
        have hdg : Good d := by rw [← e]; exact hX.drop _
        rw [← glue_fr r, joinR_glue _ _ (frN_good (hF r hr)) hdg] at h
        split at h
        · rename_i hlt
          have hl' := (Option.some.inj h).symm
          exact ⟨r, hr, hl, d, hd.symm, hl', by rw [hl']; exact hlt⟩
        · cases h
      · rw [if_neg hp] at h
        exact ih' h
    · rw [if_neg hl] at h
      exact ih' h
theorem src_of {F : List Ru} (G : List Ru) (hG : ∀ r ∈ G, r ∈ F) (hF : FOk F) (hA : AgrF F) {r : Ru} (hr : r ∈ F) (hrG : r ∈ G) (lr : letsK r.1 = true) {d : Rw} (hd : Good d) (hlt : letsK (ruleT (tabL F) (glue (frN r ++ d))).1 = true) : srcR F G (glue (toN r ++ d)) = some (glue (frN r ++ d)) := by
  induction G with
  | nil => cases hrG
  | cons s G ih =>
    have hs := hG s (by simp)
    have hX : Good (toN r ++ d) := (toN_good (hF r hr)).app hd
    simp only [srcR]
    by_cases hl : letsK s.1 = true
    · rw [if_pos hl, ← glue_to s, restP_glue _ (toN s) hX (toN_good (hF s hs))]
      by_cases hp : toN s <+: toN r ++ d
      · rw [if_pos hp]
        obtain ⟨e, he⟩ := hp
        have e1 : (toN r ++ d).drop (toN s).length = e := by rw [← he, List.drop_left]
        simp only [e1]
        have heg : Good e := by rw [← e1]; exact hX.drop _
        have hsame := (shape_same hF hA hs hr hl lr).2 he
        rw [← glue_fr s, joinR_glue _ _ (frN_good (hF s hs)) heg, hsame, if_pos hlt]
      · rw [if_neg hp]
        rcases List.mem_cons.1 hrG with e | e
        · subst e; exact absurd (List.prefix_append _ _) hp
        · exact ih (fun x hx => hG x (by simp [hx])) e
    · rw [if_neg hl]
      rcases List.mem_cons.1 hrG with e | e
      · subst e; exact absurd lr hl
      · exact ih (fun x hx => hG x (by simp [hx])) e
/-- the way back from an image -/
theorem there_back {F : List Ru} (hF : FOk F) (hA : AgrF F) {A : Rw} (hAg : Good A) {x : List UInt8} (h : imgL F (glue A) = some x) : srcL F x = some (glue A) := by
  have hlt := img_lets h
  obtain ⟨r, hr, lr, d, rfl, rfl⟩ := img_shape hF hAg h
  have hd : Good d := fun n hn => hAg n (List.mem_append.2 (.inr hn))
  exact src_of F (fun _ h => h) hF hA hr hr lr hd hlt
/-- the way there from a source -/
theorem back_there {F : List Ru} (hF : FOk F) (hA : AgrF F) {X : Rw} (hX : Good X) {l : List UInt8} (h : srcL F (glue X) = some l) : imgL F l = some (glue X) := by
  obtain ⟨r, hr, lr, d, rfl, rfl, hlt⟩ := src_some F (fun _ h => h) hF hX h
  have hd : Good d := fun n hn => hX n (List.mem_append.2 (.inr hn))
  have hg : Good (frN r ++ d) := (frN_good (hF r hr)).app hd
  have hi : ∃ x, imgL F (glue (frN r ++ d)) = some x := by unfold imgL; rw [if_pos hlt]; exact ⟨_, rfl⟩
  obtain ⟨x, hx⟩ := hi
  obtain ⟨s, hs, ls, e, h1, h2⟩ := img_shape hF hg hx
  rw [hx, h2, (shape_same hF hA hr hs lr ls).1 h1]
/-- images lie in one another just as what they are the images of -/
theorem in_images {F : List Ru} (hF : FOk F) (hA : AgrF F) {A B : Rw} (hAg : Good A) (hBg : Good B) {x y : List UInt8} (hx : imgL F (glue A) = some x) (hy : imgL F (glue B) = some y) : (B <+: A ↔ parts y <+: parts x) ∧ (A = B ↔ x = y) := by
  obtain ⟨r, hr, lr, d, rfl, rfl⟩ := img_shape hF hAg hx
  obtain ⟨s, hs, ls, e, rfl, rfl⟩ := img_shape hF hBg hy
  have hd : Good d := fun n hn => hAg n (List.mem_append.2 (.inr hn))
  have he : Good e := fun n hn => hBg n (List.mem_append.2 (.inr hn))
  have g1 : Good (toN r ++ d) := (toN_good (hF r hr)).app hd
  have g2 : Good (toN s ++ e) := (toN_good (hF s hs)).app he
  refine ⟨?_, ?_⟩
  · rw [parts_glue _ g1, parts_glue _ g2]
    exact shape_in hF hA hr hs lr ls
  · rw [shape_same hF hA hr hs lr ls]
    constructor
    · intro h; rw [h]
    · intro h
      have := congrArg parts h
      rw [parts_glue _ g1, parts_glue _ g2] at this
      exact this
end Go.Proofs.Ytggnglgehobglaa
