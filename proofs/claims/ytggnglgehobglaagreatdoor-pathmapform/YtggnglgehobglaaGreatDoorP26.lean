import Derived.Test.YtggnglgehobglaaGreatDoorP01
import Derived.Test.YtggnglgehobglaaGreatDoorP25
/- A table of rules and what it says on rows of names: MAbs held against MUpper, MMap, MForm. Plain. -/
namespace Go.Proofs.YtggnglgehobglaaGreatDoor

/-- what a rule says -/
def cls (r : Ru) : Option Rw := if letsK r.1 = true then some (toN r) else none
theorem cls_some (r : Ru) : (cls r).isSome = letsK r.1 := by
  unfold cls
  cases letsK r.1 <;> rfl
/-- a table, on rows of names -/
def hT (g : Tb) : Ht (List UInt8) := fun A => if parts (glue A) = A then (g (glue A)).map cls else none
theorem hT_good (g : Tb) {A : Rw} (h : Good A) : hT g A = (g (glue A)).map cls := by
  unfold hT
  rw [if_pos (parts_glue A h)]
/-- its rows are rows of names, and so are those to which it leads -/
def TOk (g : Tb) : Prop := ∀ x r, g x = some r → r.2.1 = x ∧ Good (parts x) ∧ (letsK r.1 = true → Good (toN r))
theorem hT_some {g : Tb} (hg : TOk g) {A : Rw} {s : Option Rw} (h : hT g A = some s) : ∃ r, g (glue A) = some r ∧ cls r = s ∧ frN r = A ∧ Good A := by
  unfold hT at h
  by_cases e : parts (glue A) = A
  · rw [if_pos e] at h
    cases hx : g (glue A) with
    | none => rw [hx] at h; cases h
    | some r =>
      rw [hx] at h
      obtain ⟨h1, h2, _⟩ := hg _ r hx
      exact ⟨r, rfl, Option.some.inj h, by unfold frN; rw [h1, e], by rw [e] at h2; exact h2⟩
  · rw [if_neg e] at h; cases h
theorem hT_key {g : Tb} (hg : TOk g) {x : List UInt8} {r : Ru} (h : g x = some r) : hT g (parts x) = some (cls r) := by
  rw [hT_good g (hg x r h).2.1, glue_parts, h]; rfl
theorem begS_snoc : ∀ (A : Rw) (n acc : List UInt8), NoStroke A → A ≠ [] → (47 : UInt8) ∉ n → begS acc (glue (A ++ [n])) = begS acc (glue A) ++ [acc ++ glue A]
  | [], n, acc, _, h, _ => absurd rfl h
  | [m], n, acc, hA, _, hn => by
    have hm := hA m (by simp)
    have e1 : glue ([m] ++ [n]) = m ++ 47 :: n := by
      show glue (m :: [n]) = _
      rw [glue_cons m [n] (by simp), glue_one]
    have e3 : begS (acc ++ m ++ [47]) n = [] := by
      have := begS_run n (acc ++ m ++ [47]) [] hn
      rw [List.append_nil] at this
      rw [this]; rfl
    have e4 : begS acc m = [] := by
      have := begS_run m acc [] hm
      rw [List.append_nil] at this
      rw [this]; rfl
    rw [e1, begS_run m acc _ hm, glue_one, e4]
    simp only [begS, if_true, e3, List.nil_append]
  | m :: k :: r, n, acc, hA, _, hn => by
    have hm := hA m (by simp)
    have ih := begS_snoc (k :: r) n (acc ++ m ++ [47]) (fun x hx => hA x (by simp at hx ⊢; exact .inr hx)) (by simp) hn
    have e1 : glue (m :: k :: r ++ [n]) = m ++ 47 :: glue (k :: r ++ [n]) := glue_cons m (k :: r ++ [n]) (by simp)
    rw [e1, glue_cons m (k :: r) (by simp), begS_run m acc _ hm, begS_run m acc _ hm]
    simp only [begS, if_true, ih]
    simp
theorem okName_noStroke {n : List UInt8} (h : okName n = true) : (47 : UInt8) ∉ n := (show Good [n] from fun x hx => by simp at hx; rw [hx]; exact h).noStroke n (by simp)
theorem begL_snoc {A : Rw} {n : List UInt8} (h : Good (A ++ [n])) : begL (glue (A ++ [n])) = begL (glue A) ++ [glue A] := by
  have hA : Good A := fun x hx => h x (by simp [hx])
  have hn : (47 : UInt8) ∉ n := okName_noStroke (h n (by simp))
  have hne : glue (A ++ [n]) ≠ [] := glue_ne _ (by simp) h
  unfold begL
  rw [if_neg hne]
  by_cases e : A = []
  · subst e
    rw [if_pos (show glue [] = [] from glue_nil)]
    have := begS_run n [] [] hn
    rw [List.append_nil] at this
    rw [List.nil_append, glue_one, this, glue_nil]; rfl
  · rw [if_neg (glue_ne A e hA), begS_snoc A n [] hA.noStroke e hn]
    simp
theorem uprT_nil (g : Tb) : uprT g [] = noR := rfl
theorem uprT_snoc (g : Tb) {A : Rw} {n : List UInt8} (h : Good (A ++ [n])) : uprT g (glue (A ++ [n])) = ruleT g (glue A) := by
  unfold uprT
  rw [begL_snoc h, lastT_snoc]; rfl
/-- a row's rule, and its image -/
theorem rule_im {g : Tb} (hg : TOk g) (A : Rw) : Good A → (letsK (ruleT g (glue A)).1 = true → ∃ d, A = frN (ruleT g (glue A)) ++ d ∧ imN (hT g) A = some (toN (ruleT g (glue A)) ++ d) ∧ Good (toN (ruleT g (glue A)))) ∧ (letsK (ruleT g (glue A)).1 = false → imN (hT g) A = none) := by
  have own : ∀ (A : Rw) r, Good A → g (glue A) = some r → (letsK (ruleT g (glue A)).1 = true → ∃ d, A = frN (ruleT g (glue A)) ++ d ∧ imN (hT g) A = some (toN (ruleT g (glue A)) ++ d) ∧ Good (toN (ruleT g (glue A)))) ∧ (letsK (ruleT g (glue A)).1 = false → imN (hT g) A = none) := by
    intro A r hA hr
    have e : ruleT g (glue A) = r := by unfold ruleT; rw [hr]; rfl
    obtain ⟨h1, _, h3⟩ := hg _ r hr
    rw [e, imN_up, hT_good g hA, hr]
    refine ⟨fun hl => ⟨[], ?_, ?_, h3 hl⟩, fun hl => ?_⟩
    · unfold frN; rw [h1, parts_glue A hA, List.append_nil]
    · show cls r = _
      unfold cls
      rw [if_pos hl, List.append_nil]
    · show cls r = _
      unfold cls
      rw [if_neg (by rw [hl]; decide)]
  refine snoc_ind (P := fun A => Good A → (letsK (ruleT g (glue A)).1 = true → ∃ d, A = frN (ruleT g (glue A)) ++ d ∧ imN (hT g) A = some (toN (ruleT g (glue A)) ++ d) ∧ Good (toN (ruleT g (glue A)))) ∧ (letsK (ruleT g (glue A)).1 = false → imN (hT g) A = none)) ?_ ?_ A
  · intro hA
    cases hr : g (glue []) with
    | some r => exact own [] r hA hr
    | none =>
      have e : ruleT g (glue []) = noR := by unfold ruleT; rw [hr]; rfl
      have e2 : imN (hT g) [] = none := by rw [imN_nil, hT_good g hA, hr]; rfl
      rw [e, e2]
      exact ⟨fun h => (by cases h), fun _ => rfl⟩
  · intro A n ih hA
    have hA' : Good A := fun x hx => hA x (by simp [hx])
    cases hr : g (glue (A ++ [n])) with
    | some r => exact own _ r hA hr
    | none =>
      have e : ruleT g (glue (A ++ [n])) = ruleT g (glue A) := by
        conv => lhs; unfold ruleT
        rw [hr, Option.getD_none, uprT_snoc g hA]
      rw [e, imN_snoc, hT_good g hA, hr]
      obtain ⟨h1, h2⟩ := ih hA'
      refine ⟨fun hl => ?_, fun hl => ?_⟩
      · obtain ⟨d, e1, e2, e3⟩ := h1 hl
        refine ⟨d ++ [n], by rw [← List.append_assoc, ← e1], ?_, e3⟩
        rw [e2]
        show some (_ ++ _ ++ _) = _
        rw [List.append_assoc]
      · rw [h2 hl]; rfl
theorem rule_some {g : Tb} (hg : TOk g) {A : Rw} (hA : Good A) : letsK (ruleT g (glue A)).1 = (imN (hT g) A).isSome := by
  obtain ⟨h1, h2⟩ := rule_im hg A hA
  cases h : letsK (ruleT g (glue A)).1 with
  | true => obtain ⟨d, _, e, _⟩ := h1 h; rw [e]; rfl
  | false => rw [h2 h]; rfl
/-- the image by a table -/
def imgT (g : Tb) (l : List UInt8) : Option (List UInt8) := if letsK (ruleT g l).1 then some (joinR (tgtR (ruleT g l)) ((restP l (ruleT g l).2.1).getD [])) else none
theorem join_rest {r : Ru} {d : Rw} (hf : Good (frN r ++ d)) (ht : Good (toN r)) : joinR (tgtR r) ((restP (glue (frN r ++ d)) r.2.1).getD []) = glue (toN r ++ d) := by
  have hfr : Good (frN r) := fun x hx => hf x (by simp [hx])
  have hd : Good d := fun x hx => hf x (by simp [hx])
  conv => lhs; rw [← glue_fr r, ← glue_to r]
  rw [restP_glue _ _ hf hfr, if_pos (List.prefix_append _ _), List.drop_left, Option.getD_some, joinR_glue _ _ ht hd]
theorem imgT_im {g : Tb} (hg : TOk g) {A : Rw} (hA : Good A) : imgT g (glue A) = (imN (hT g) A).map glue := by
  obtain ⟨h1, h2⟩ := rule_im hg A hA
  unfold imgT
  cases h : letsK (ruleT g (glue A)).1 with
  | true =>
    obtain ⟨d, e1, e2, e3⟩ := h1 h
    rw [e2, if_pos rfl]
    show some _ = some _
    congr 1
    generalize ruleT g (glue A) = r at *
    subst e1
    exact join_rest hA e3
  | false => rw [h2 h]; rfl
theorem im_good {g : Tb} (hg : TOk g) {A X : Rw} (hA : Good A) (h : imN (hT g) A = some X) : Good X := by
  obtain ⟨h1, h2⟩ := rule_im hg A hA
  cases hl : letsK (ruleT g (glue A)).1 with
  | true =>
    obtain ⟨d, e1, e2, e3⟩ := h1 hl
    rw [e2] at h
    cases h
    refine e3.app (fun x hx => hA x ?_)
    rw [e1]
    simp [hx]
  | false => rw [h2 hl] at h; cases h
theorem im_goodA {g : Tb} (hg : TOk g) {A X : Rw} (hX : Good X) (h : imN (hT g) A = some X) : Good A := by
  obtain ⟨B, T, d, h1, h2, h3⟩ := im_shape A X h
  obtain ⟨_, _, _, _, hB⟩ := hT_some hg h1
  rw [h2]
  refine hB.app (fun x hx => hX x ?_)
  rw [h3]
  simp [hx]
/-- the upper rule, and the image by it -/
theorem upr_some {g : Tb} (hg : TOk g) {A : Rw} (hA : Good A) : letsK (uprT g (glue A)).1 = (upI (hT g) A).isSome := by
  rcases snoc_cases A with rfl | ⟨B, n, rfl⟩
  · rfl
  · rw [uprT_snoc g hA, rule_some hg (fun x hx => hA x (by simp [hx])), upI_snoc]
    cases imN (hT g) B <;> rfl
def movR (r : Ru) (l : List UInt8) : List UInt8 := joinR (tgtR r) ((restP l r.2.1).getD [])
theorem upr_mov {g : Tb} (hg : TOk g) {A Y : Rw} (hA : Good A) (h : upI (hT g) A = some Y) : movR (uprT g (glue A)) (glue A) = glue Y ∧ Good Y := by
  rcases snoc_cases A with rfl | ⟨B, n, rfl⟩
  · cases h
  · have hB : Good B := fun x hx => hA x (by simp [hx])
    rw [upI_snoc] at h
    cases hi : imN (hT g) B with
    | none => rw [hi] at h; cases h
    | some X =>
      rw [hi] at h
      have e : X ++ [n] = Y := Option.some.inj h
      rw [uprT_snoc g hA]
      obtain ⟨h1, h2⟩ := rule_im hg B hB
      cases hl : letsK (ruleT g (glue B)).1 with
      | false => rw [h2 hl] at hi; cases hi
      | true =>
        obtain ⟨d, e1, e2, e3⟩ := h1 hl
        have hX := im_good hg hB hi
        rw [e2] at hi
        have e4 : toN (ruleT g (glue B)) ++ d = X := Option.some.inj hi
        rw [← e, ← e4]
        unfold movR
        generalize ruleT g (glue B) = r at *
        subst e1
        refine ⟨?_, ?_⟩
        · rw [List.append_assoc, List.append_assoc]
          rw [List.append_assoc] at hA
          exact join_rest hA e3
        · rw [e4]
          exact hX.app (fun x hx => hA x (by simp at hx ⊢; exact .inr (.inr hx)))
/-! lists whose Froms are unlike -/
def FrU (F : List Ru) : Prop := F.Pairwise fun r s => r.2.1 ≠ s.2.1
theorem tabL_snoc (F : List Ru) (r : Ru) : tabL (F ++ [r]) = setT (tabL F) r.2.1 r := by
  unfold tabL
  rw [List.foldl_append]; rfl
theorem tabL_key (F : List Ru) (r : Ru) : r ∈ F → ∃ s ∈ F, tabL F r.2.1 = some s ∧ s.2.1 = r.2.1 := by
  refine snoc_ind (P := fun F => r ∈ F → ∃ s ∈ F, tabL F r.2.1 = some s ∧ s.2.1 = r.2.1) (fun h => by cases h) (fun F q ih h => ?_) F
  rw [tabL_snoc]
  unfold setT
  by_cases e : r.2.1 = q.2.1
  · rw [if_pos e]
    exact ⟨q, by simp, rfl, e.symm⟩
  · rw [if_neg e]
    rcases List.mem_append.1 h with h1 | h1
    · obtain ⟨s, h2, h3⟩ := ih h1
      exact ⟨s, by simp [h2], h3⟩
    · simp at h1
      rw [h1] at e
      exact absurd rfl e
theorem frU_eq {F : List Ru} (h : FrU F) {r s : Ru} (hr : r ∈ F) (hs : s ∈ F) (e : r.2.1 = s.2.1) : r = s := by
  induction F with
  | nil => cases hr
  | cons q F ih =>
    obtain ⟨h1, h2⟩ := List.pairwise_cons.1 h
    rcases List.mem_cons.1 hr with er | hr'
    · rcases List.mem_cons.1 hs with es | hs'
      · rw [er, es]
      · exact absurd (by rw [← er]; exact e) (h1 s hs')
    · rcases List.mem_cons.1 hs with es | hs'
      · exact absurd (by rw [← es]; exact e.symm) (h1 r hr')
      · exact ih h2 hr' hs'
theorem tabL_iff {F : List Ru} (h : FrU F) (x : List UInt8) (r : Ru) : tabL F x = some r ↔ r ∈ F ∧ r.2.1 = x := by
  constructor
  · exact tabL_mem F x r
  · rintro ⟨hr, rfl⟩
    obtain ⟨s, hs, e, e2⟩ := tabL_key F r hr
    rw [e, frU_eq h hs hr e2]
theorem form_frU {g : Tb} (hg : TOk g) {ks : List (List UInt8)} (hK : KeyL g ks) : FrU (formT g ks) := by
  unfold FrU formT
  rw [List.pairwise_filterMap]
  refine hK.nd.imp_of_mem ?_
  intro x y hx hy hne r hr s hs
  have key : ∀ (x : List UInt8) r, x ∈ ks → r ∈ (if stayR g ((g x).getD noR) = true then some (plnR ((g x).getD noR)) else none) → r.2.1 = x := by
    intro x r hx hr
    obtain ⟨q, hq⟩ := Option.isSome_iff_exists.1 ((hK.mem x).1 hx)
    rw [hq] at hr
    split at hr
    · have e : plnR q = r := Option.some.inj hr
      rw [← e, pln_from]
      exact (hg x q hq).1
    · cases hr
  rw [key x r hx hr, key y s hy hs]
  exact hne
theorem form_tab {g : Tb} (hg : TOk g) {ks : List (List UInt8)} (hK : KeyL g ks) (x : List UInt8) : tabL (formT g ks) x = match g x with
    | none => none
    | some r => if stayR g r = true then some (plnR r) else none := by
  have hU := form_frU hg hK
  cases hx : g x with
  | none =>
    simp only
    cases e : tabL (formT g ks) x with
    | none => rfl
    | some q =>
      obtain ⟨h1, h2⟩ := tabL_mem _ _ _ e
      obtain ⟨y, r, hy, rfl⟩ := form_mem hK h1
      rw [pln_from, (hg y r hy).1] at h2
      rw [← h2, hy] at hx
      cases hx
  | some r =>
    simp only
    have hxk : x ∈ ks := (hK.mem x).2 (by rw [hx]; rfl)
    by_cases hs : stayR g r = true
    · rw [if_pos hs, tabL_iff hU]
      refine ⟨?_, by rw [pln_from]; exact (hg x r hx).1⟩
      unfold formT
      refine List.mem_filterMap.2 ⟨x, hxk, ?_⟩
      rw [hx, Option.getD_some, if_pos hs]
    · rw [if_neg hs]
      cases e : tabL (formT g ks) x with
      | none => rfl
      | some q =>
        obtain ⟨h1, h2⟩ := tabL_mem _ _ _ e
        unfold formT at h1
        obtain ⟨y, hy, e2⟩ := List.mem_filterMap.1 h1
        obtain ⟨r', hr'⟩ := Option.isSome_iff_exists.1 ((hK.mem y).1 hy)
        rw [hr', Option.getD_some] at e2
        split at e2
        · rename_i hs'
          have e3 : plnR r' = q := Option.some.inj e2
          rw [← e3, pln_from, (hg y r' hr').1] at h2
          rw [h2, hx] at hr'
          cases hr'
          exact absurd hs' hs
        · cases e2
theorem cls_pln (r : Ru) : cls (plnR r) = cls r := by
  unfold cls toN
  rw [pln_lets, pln_to]
theorem form_tok {g : Tb} (hg : TOk g) {ks : List (List UInt8)} (hK : KeyL g ks) : TOk (tabL (formT g ks)) := fun x q h => by
  rw [form_tab hg hK] at h
  cases hx : g x with
  | none => rw [hx] at h; cases h
  | some r =>
    rw [hx] at h
    simp only at h
    split at h
    · have e : plnR r = q := Option.some.inj h
      obtain ⟨h1, h2, h3⟩ := hg x r hx
      rw [← e, pln_from, pln_lets]
      unfold toN
      rw [pln_to]
      exact ⟨h1, h2, h3⟩
    · cases h
/-- the one form, on rows of names -/
theorem form_fo {g : Tb} (hg : TOk g) {ks : List (List UInt8)} (hK : KeyL g ks) (A : Rw) : hT (tabL (formT g ks)) A = foH (hT g) A := by
  unfold foH
  by_cases hp : parts (glue A) = A
  · cases hx : g (glue A) with
    | none =>
      have e : hT g A = none := by unfold hT; rw [if_pos hp, hx]; rfl
      rw [e]
      unfold hT
      rw [if_pos hp, form_tab hg hK, hx]; rfl
    | some r =>
      obtain ⟨h1, h2, _⟩ := hg _ r hx
      rw [hp] at h2
      rw [hT_good _ h2, form_tab hg hK, hT_good g h2, hx]
      simp only [Option.map_some]
      have hst : stayR g r = true ↔ ¬ (cls r).isSome = (upI (hT g) A).isSome := by
        unfold stayR
        rw [h1, upr_some hg h2, cls_some]
        simp
      by_cases hs : stayR g r = true
      · rw [if_pos hs, if_neg (hst.1 hs)]
        show some _ = some _
        rw [cls_pln]
      · rw [if_neg hs, if_pos (Classical.byContradiction fun h => hs (hst.2 h))]; rfl
  · have e : ∀ g, hT g A = none := fun g => by unfold hT; rw [if_neg hp]
    rw [e, e]
/-! rules as they are written -/
def KdR (r : Ru) : Prop := r.1 = 3 ∨ ((r.1 = 1 ∨ r.1 = 2) ∧ r.2.2 = [])
theorem okR_kd {r : Ru} (h : okR r = true) : KdR r := by
  unfold okR at h
  simp at h
  exact h.2
/-- the rule of a row that says this -/
def canR (x : List UInt8) (s : Option Rw) : Ru := match s with
  | none => (2, x, [])
  | some T => if glue T = x then (1, x, []) else (3, x, glue T)
theorem pln_can {r : Ru} (h : KdR r) : plnR r = canR r.2.1 (cls r) := by
  obtain ⟨k, f, t⟩ := r
  unfold KdR at h
  simp only at h
  unfold plnR canR cls
  simp only
  rcases h with rfl | ⟨rfl | rfl, rfl⟩
  · rw [if_pos (show letsK 3 = true from rfl)]
    have e1 : glue (toN (3, f, t)) = t := glue_to _
    simp only [e1]
    by_cases e : t = f
    · rw [if_pos ⟨trivial, e⟩, if_pos e]
    · rw [if_neg (fun h => e h.2), if_neg e]
  · rw [if_neg (fun h => absurd h.1 (by decide)), if_pos (show letsK 1 = true from rfl)]
    have e1 : glue (toN (1, f, [])) = f := glue_to _
    simp only [e1]
    rw [if_pos trivial]
  · rw [if_neg (fun h => absurd h.1 (by decide)), if_neg (show ¬ letsK 2 = true by decide)]
theorem sorted_eq : ∀ (F G : List Ru), FrU F → FrU G → (F.Pairwise fun r s => ordP r.2.1 s.2.1 ≤ 0) → (G.Pairwise fun r s => ordP r.2.1 s.2.1 ≤ 0) → (∀ r, r ∈ F ↔ r ∈ G) → F = G
  | [], [], _, _, _, _, _ => rfl
  | [], q :: G, _, _, _, _, h => absurd ((h q).2 (by simp)) (by simp)
  | r :: F, [], _, _, _, _, h => absurd ((h r).1 (by simp)) (by simp)
  | r :: F, q :: G, hF, hG, sF, sG, h => by
    obtain ⟨f1, f2⟩ := List.pairwise_cons.1 hF
    obtain ⟨g1, g2⟩ := List.pairwise_cons.1 hG
    obtain ⟨a1, a2⟩ := List.pairwise_cons.1 sF
    obtain ⟨b1, b2⟩ := List.pairwise_cons.1 sG
    have e : r = q := by
      rcases List.mem_cons.1 ((h r).1 (by simp)) with e | e
      · exact e
      · rcases List.mem_cons.1 ((h q).2 (by simp)) with e2 | e2
        · exact e2.symm
        · have h1 := a1 q e2
          have h2 := b1 r e
          rw [ordP_neg r.2.1 q.2.1] at h2
          have h3 := (ordP_zero r.2.1 q.2.1).1 (by omega)
          exact absurd h3 (f1 q e2)
    subst e
    congr 1
    refine sorted_eq F G f2 g2 a2 b2 (fun x => ?_)
    constructor
    · intro hx
      rcases List.mem_cons.1 ((h x).1 (by simp [hx])) with e | e
      · exact absurd (by rw [e]) (f1 x hx)
      · exact e
    · intro hx
      rcases List.mem_cons.1 ((h x).2 (by simp [hx])) with e | e
      · exact absurd (by rw [e]) (g1 x hx)
      · exact e
theorem form_sorted {g : Tb} (hg : TOk g) {ks : List (List UInt8)} (hK : KeyL g ks) : (formT g ks).Pairwise fun r s => ordP r.2.1 s.2.1 ≤ 0 := by
  unfold formT
  rw [List.pairwise_filterMap]
  refine hK.ord.imp_of_mem ?_
  intro x y hx hy hne r hr s hs
  have key : ∀ (x : List UInt8) r, x ∈ ks → r ∈ (if stayR g ((g x).getD noR) = true then some (plnR ((g x).getD noR)) else none) → r.2.1 = x := by
    intro x r hx hr
    obtain ⟨q, hq⟩ := Option.isSome_iff_exists.1 ((hK.mem x).1 hx)
    rw [hq] at hr
    split at hr
    · have e : plnR q = r := Option.some.inj hr
      rw [← e, pln_from]
      exact (hg x q hq).1
    · cases hr
  rw [key x r hx hr, key y s hy hs]
  exact hne
/-- the one form of a Map -/
structure FormU (F : List Ru) : Prop where
  tok : TOk (tabL F)
  fr : FrU F
  srt : F.Pairwise fun r s => ordP r.2.1 s.2.1 ≤ 0
  can : ∀ r ∈ F, r = canR r.2.1 (cls r)
  fo : IsFo (hT (tabL F))
  agr : AgH (hT (tabL F))
theorem fOk_tok {F : List Ru} (h : FOk F) : TOk (tabL F) := fun x r hr => by
  obtain ⟨h1, h2⟩ := tabL_mem F x r hr
  exact ⟨h2, by rw [← h2]; exact isP_good (h r h1).1, fun _ => toN_good (h r h1)⟩
theorem form_formU {g : Tb} (hg : TOk g) (hk : ∀ x r, g x = some r → KdR r) (ha : AgH (hT g)) {ks : List (List UInt8)} (hK : KeyL g ks) : FormU (formT g ks) := by
  have e : hT (tabL (formT g ks)) = foH (hT g) := funext (form_fo hg hK)
  refine ⟨form_tok hg hK, form_frU hg hK, form_sorted hg hK, fun q hq => ?_, by rw [e]; exact fo_isFo ha, by rw [e]; exact fo_agr ha⟩
  obtain ⟨x, r, hr, rfl⟩ := form_mem hK hq
  rw [pln_from, cls_pln, pln_can (hk x r hr)]
/-- one forms that say the same are the same -/
theorem FormU.eq {F G : List Ru} (hF : FormU F) (hG : FormU G) (h : ∀ A, imN (hT (tabL F)) A = imN (hT (tabL G)) A) : F = G := by
  have e := isFo_eq hF.fo hG.fo h
  have key : ∀ (F G : List Ru), FormU F → FormU G → (∀ A, hT (tabL F) A = hT (tabL G) A) → ∀ r ∈ F, r ∈ G := by
    intro F G hF hG e r hr
    have h1 := (tabL_iff hF.fr r.2.1 r).2 ⟨hr, rfl⟩
    have h2 := hT_key hF.tok h1
    rw [e] at h2
    obtain ⟨q, hq, h3, h4, _⟩ := hT_some hG.tok h2
    rw [glue_parts] at hq
    obtain ⟨h5, h6⟩ := (tabL_iff hG.fr r.2.1 q).1 hq
    have : q = r := by rw [hG.can q h5, hF.can r hr, h3, h6]
    rw [← this]
    exact h5
  exact sorted_eq F G hF.fr hG.fr hF.srt hG.srt (fun r => ⟨key F G hF hG e r, key G F hG hF (fun A => (e A).symm) r⟩)
/-- rules that agree, on rows of names -/
theorem agr_agH {F : List Ru} (hF : FOk F) (hA : AgrF F) : AgH (hT (tabL F)) := fun A B T U d h1 h2 => by
  obtain ⟨r, hr, c1, rfl, _⟩ := hT_some (fOk_tok hF) h1
  obtain ⟨s, hs, c2, rfl, _⟩ := hT_some (fOk_tok hF) h2
  have mr := (tabL_mem F _ r hr).1
  have ms := (tabL_mem F _ s hs).1
  unfold cls at c1 c2
  by_cases lr : letsK r.1 = true
  · by_cases ls : letsK s.1 = true
    · rw [if_pos lr] at c1
      rw [if_pos ls] at c2
      cases c1
      cases c2
      have := shape_same hF hA mr ms lr ls (d := []) (e := d)
      simpa using this
    · rw [if_neg ls] at c2; cases c2
  · rw [if_neg lr] at c1; cases c1
/-- what New makes of rules that may be -/
theorem new_formU {rs : List Ru} {n : Nat} {ks : List (List UInt8)} (hn : rs.length = n) (h : GoodU rs n) (hK : KeyL (tabL rs) ks) : FormU (formT (tabL rs) ks) := by
  have hok := tabL_pth hn h
  refine form_formU (fOk_tok hok) (fun x r hr => ?_) (agr_agH hok (agr_rules hn h)) hK
  obtain ⟨i, hi, e⟩ := List.getElem_of_mem (tabL_mem rs x r hr).1
  exact okR_kd (besE_ok (h i r (by omega) (List.getElem?_eq_some_iff.2 ⟨hi, e⟩))).1
theorem FormU.img {F : List Ru} (h : FormU F) {A : Rw} (hA : Good A) : imgL F (glue A) = (imN (hT (tabL F)) A).map glue := imgT_im h.tok hA
end Go.Proofs.YtggnglgehobglaaGreatDoor
