import Derived.Test.YtncagdfbgpdhfaaGreatQ40
import Derived.Test.YtncagdfbgpdhfaaGreatQ37
/- ParentsLeast and ParentsBases, plain: what is left of a list, by ancestors. -/
namespace Go.Proofs.YtncagdfbgpdhfaaGreat

theorem redG_mem {B : Int → Bool} (x : Int) : ∀ (r seen : List Int), x ∈ redG B seen r ↔ x ∈ r ∧ B x = false ∧ x ∉ seen
  | [], seen => by simp [redG]
  | y :: r, seen => by
    simp only [redG]
    by_cases hc : (B y || seen.contains y) = true
    · rw [if_pos hc, redG_mem x r (y :: seen)]
      constructor
      · rintro ⟨h1, h2, h3⟩
        exact ⟨List.mem_cons_of_mem _ h1, h2, fun h => h3 (List.mem_cons_of_mem _ h)⟩
      · rintro ⟨h1, h2, h3⟩
        have hne : x ≠ y := fun e => by
          subst e
          rw [h2, Bool.false_or] at hc
          exact h3 (by simpa using hc)
        refine ⟨(List.mem_cons.1 h1).resolve_left hne, h2, fun h => ?_⟩
        exact (List.mem_cons.1 h).elim hne h3
    · rw [if_neg hc, List.mem_cons, redG_mem x r (y :: seen)]
      have hc' : B y = false ∧ y ∉ seen := by
        rw [Bool.not_eq_true, Bool.or_eq_false_iff] at hc
        exact ⟨hc.1, by simpa using hc.2⟩
      constructor
      · rintro (h | ⟨h1, h2, h3⟩)
        · subst h; exact ⟨by simp, hc'.1, hc'.2⟩
        · exact ⟨List.mem_cons_of_mem _ h1, h2, fun h => h3 (List.mem_cons_of_mem _ h)⟩
      · rintro ⟨h1, h2, h3⟩
        by_cases hne : x = y
        · exact .inl hne
        · exact .inr ⟨(List.mem_cons.1 h1).resolve_left hne, h2, fun h => (List.mem_cons.1 h).elim hne h3⟩
theorem redG_nodup {B : Int → Bool} : ∀ (r seen : List Int), (redG B seen r).Nodup
  | [], _ => by simp [redG]
  | y :: r, seen => by
    simp only [redG]
    split
    · exact redG_nodup r _
    · rw [List.nodup_cons]
      exact ⟨fun h => ((redG_mem y r (y :: seen)).1 h).2.2 (by simp), redG_nodup r _⟩
theorem redG_all {B : Int → Bool} : ∀ (r seen : List Int), r.Nodup → (∀ x ∈ r, B x = false ∧ x ∉ seen) → redG B seen r = r
  | [], _, _, _ => rfl
  | y :: r, seen, hn, h => by
    have hy := h y (by simp)
    have e1 : (B y || seen.contains y) = false := by rw [hy.1, Bool.false_or]; simpa using hy.2
    have hn2 := List.nodup_cons.1 hn
    simp only [redG, e1, Bool.false_eq_true, if_false]
    rw [redG_all r (y :: seen) hn2.2 (fun x hx => ⟨(h x (by simp [hx])).1, fun hm => (List.mem_cons.1 hm).elim (fun e => hn2.1 (e ▸ hx)) (h x (by simp [hx])).2⟩)]
theorem redP_mem {os : List Ob} {l : List Int} {g : GS} (h : ordG os l GS.none = .ok g) (x : Int) : x ∈ redP os g l ↔ x ∈ l ∧ ∀ y ∈ l, Anc (parsO os) x y → x = y := by
  have hb := list_below h x
  have hb' : (spr (psO os) 1 g.ord.reverse (listM l) x).testBit 2 = true ↔ ∃ y ∈ l, Anc (parsO os) x y ∧ x ≠ y := hb
  unfold redP
  rw [redG_mem]
  constructor
  · rintro ⟨h1, h2, _⟩
    refine ⟨h1, fun y hy hA => Classical.byContradiction fun e => ?_⟩
    rw [hb'.2 ⟨y, hy, hA, e⟩] at h2
    cases h2
  · rintro ⟨h1, h2⟩
    refine ⟨h1, ?_, by simp⟩
    rw [← Bool.not_eq_true, hb']
    rintro ⟨y, hy, hA, e⟩
    exact e (h2 y hy hA)
theorem redP_nodup (os : List Ob) (g : GS) (l : List Int) : (redP os g l).Nodup := redG_nodup _ _
/-- what is left of a list is left of itself -/
theorem redP_again {os : List Ob} {l : List Int} {g : GS} (h : ordG os l GS.none = .ok g) : ∃ g2, ordG os (redP os g l) GS.none = .ok g2 ∧ redP os g2 (redP os g l) = redP os g l := by
  obtain ⟨g2, h2, _⟩ := ord_within h (m := redP os g l) (fun x hx => ord_heads h x ((redP_mem h x).1 hx).1)
  refine ⟨g2, h2, ?_⟩
  have hm : ∀ x ∈ redP os g l, x ∈ redP os g2 (redP os g l) := fun x hx => (redP_mem h2 x).2 ⟨hx, fun y hy hA => ((redP_mem h x).1 hx).2 y ((redP_mem h y).1 hy).1 hA⟩
  have hB : ∀ x ∈ redP os g l, (fun x => (spr (psO os) 1 g2.ord.reverse (listM (redP os g l)) x).testBit 2) x = false := fun x hx => ((redG_mem x _ _).1 (hm x hx)).2.1
  exact redG_all (redP os g l) [] (redP_nodup _ _ _) (fun x hx => ⟨hB x hx, by simp⟩)
/-- all of a list lead to what is left -/
theorem redP_led {os : List Ob} {l : List Int} {g : GS} (h : ordG os l GS.none = .ok g) {x : Int} (hx : x ∈ l) : ∃ y ∈ redP os g l, Anc (parsO os) x y := by
  obtain ⟨y, ⟨hy, hA⟩, hm⟩ := base_some h (fun z => z ∈ l ∧ Anc (parsO os) x z) (fun z hz => ord_heads h z hz.1) ⟨hx, .refl⟩
  exact ⟨y, (redP_mem h y).2 ⟨hy, fun z hz hz2 => hm z ⟨hz, hA.trans hz2⟩ hz2⟩, hA⟩
/-- Ancestor of two that stand in an order -/
theorem anc_at {os : List Ob} {l : List Int} {g : GS} (h : ordG os l GS.none = .ok g) {a b : Int} (ha : a ∈ g.ord) (hb : b ∈ g.ord) : ∃ gx, ordG os [a, b] GS.none = .ok gx ∧ (decide (0 < linesG os gx.ord a b) = true ↔ Anc (parsO os) a b) := by
  obtain ⟨gx, h1, h2⟩ := laws_anc h ha hb
  exact ⟨gx, h1, by rw [decide_eq_true_iff]; exact h2⟩
/-- of what is left each has itself alone for an ancestor -/
theorem redP_beside {os : List Ob} {l : List Int} {g : GS} (h : ordG os l GS.none = .ok g) {i k : Nat} {x y : Int} (hx : (redP os g l)[i]? = some x) (hy : (redP os g l)[k]? = some y) : Anc (parsO os) x y ↔ i = k := by
  have mx := List.mem_of_getElem? hx
  have my := List.mem_of_getElem? hy
  constructor
  · intro hA
    have e := ((redP_mem h x).1 mx).2 y ((redP_mem h y).1 my).1 hA
    subst e
    exact nodup_at (redP_nodup _ _ _) hx hy
  · rintro rfl
    rw [hx] at hy
    cases hy
    exact .refl
/-- the order of a list is no matter -/
theorem redP_turned {os : List Ob} {l m : List Int} {g : GS} (h : ordG os l GS.none = .ok g) (hm : ∀ x, x ∈ m ↔ x ∈ l) : ∃ g2, ordG os m GS.none = .ok g2 ∧ (redP os g2 m).length = (redP os g l).length ∧ ∀ x ∈ redP os g2 m, x ∈ redP os g l := by
  obtain ⟨g2, h2, _⟩ := ord_within h (m := m) (fun x hx => ord_heads h x ((hm x).1 hx))
  have hmm : ∀ x, x ∈ redP os g2 m ↔ x ∈ redP os g l := fun x => by
    rw [redP_mem h2, redP_mem h, hm]
    exact ⟨fun ⟨a, b⟩ => ⟨a, fun y hy => b y ((hm y).2 hy)⟩, fun ⟨a, b⟩ => ⟨a, fun y hy => b y ((hm y).1 hy)⟩⟩
  exact ⟨g2, h2, nodup_count (redP_nodup _ _ _) (redP_nodup _ _ _) hmm, fun x hx => (hmm x).1 hx⟩
/-- the list turned about, each twice -/
def turnL (l : List Int) : List Int := l.reverse.flatMap fun x => [x, x]
theorem turnL_mem (l : List Int) (x : Int) : x ∈ turnL l ↔ x ∈ l := by
  unfold turnL
  rw [List.mem_flatMap]
  constructor
  · rintro ⟨y, hy, hx⟩
    simp at hx
    subst hx
    simpa using hy
  · intro hx
    exact ⟨x, by simpa using hx, by simp⟩
theorem turnL_step (l : List Int) (k : Nat) (x : Int) (hk : k < l.length) (hx : l[l.length - 1 - k]? = some x) : (l.reverse.take (k + 1)).flatMap (fun x => [x, x]) = (l.reverse.take k).flatMap (fun x => [x, x]) ++ [x, x] := by
  have h1 : l.reverse[k]? = some x := by rw [List.getElem?_reverse hk]; exact hx
  obtain ⟨h2, h3⟩ := List.getElem?_eq_some_iff.1 h1
  rw [List.take_succ_eq_append_getElem h2, List.flatMap_append, h3]
  simp
theorem goL_open {v : Int → GS → GR} {D : List Int} (hv : ∀ x s, (∀ d ∈ D, s.been d = 1) → v x s ≠ .bad 0 ∧ ∀ s', v x s = .ok s' → ∀ y, s.been y = 1 → s'.been y = 1) : ∀ (l : List Int) (s : GS), (∀ d ∈ D, s.been d = 1) → goL v l s ≠ .bad 0 ∧ ∀ s', goL v l s = .ok s' → ∀ y, s.been y = 1 → s'.been y = 1
  | [], s, _ => ⟨by simp [goL], fun s' h y hy => by simp only [goL, GR.ok.injEq] at h; subst h; exact hy⟩
  | x :: r, s, h => by
    obtain ⟨h1, h2⟩ := hv x s h
    simp only [goL]
    cases hx : v x s with
    | bad e =>
      rw [hx] at h1
      exact ⟨by simpa using h1, fun s' h' => by simp at h'⟩
    | ok s1 =>
      have h3 := h2 s1 hx
      obtain ⟨h4, h5⟩ := goL_open hv r s1 (fun d hd => h3 d (h d hd))
      exact ⟨by simpa using h4, fun s' h' y hy => h5 s' (by simpa using h') y (h3 y hy)⟩
theorem visit_open {os : List Ob} : ∀ (f : Nat) (D : List Int) (x : Int) (s : GS), D.Nodup → (∀ d ∈ D, (parsO os d).isSome = true) → os.length < D.length + f → (∀ d ∈ D, s.been d = 1) → visit (parsO os) (errO os) f x s ≠ .bad 0 ∧ ∀ s', visit (parsO os) (errO os) f x s = .ok s' → ∀ y, s.been y = 1 → s'.been y = 1
  | 0, D, x, s, hn, hp, hl, _ => by
    have := nodup_le D (oids os) hn (fun y hy => findO_oids (hp y hy))
    simp only [oids, List.length_map] at this
    omega
  | f + 1, D, x, s, hn, hp, hl, hb => by
    simp only [visit]
    by_cases h1 : s.been x = 1
    · rw [if_pos h1]; exact ⟨by simp, fun s' h => by cases h⟩
    · rw [if_neg h1]
      by_cases h2 : s.been x = 2
      · rw [if_pos h2]; exact ⟨by simp, fun s' h y hy => by cases h; exact hy⟩
      · rw [if_neg h2]
        cases hx : parsO os x with
        | none =>
          refine ⟨?_, fun s' h => by cases h⟩
          simp only [ne_eq, GR.bad.injEq, errO]
          split <;> decide
        | some ps =>
          have hnx : x ∉ D := fun h => h1 (hb x h)
          have hop : ∀ y, s.been y = 1 → (s.opn x).been y = 1 := fun y hy => by
            show setG s.been x 1 y = 1
            unfold setG
            split
            · rfl
            · exact hy
          have hox : (s.opn x).been x = 1 := by show setG s.been x 1 x = 1; simp [setG]
          obtain ⟨h3, h4⟩ := goL_open (D := x :: D) (v := visit (parsO os) (errO os) f) (fun z t ht => visit_open f (x :: D) z t (List.nodup_cons.2 ⟨hnx, hn⟩) (fun d hd => (List.mem_cons.1 hd).elim (fun e => by rw [e, hx]; rfl) (hp d)) (by simp only [List.length_cons]; omega) ht) ps (s.opn x) (fun d hd => (List.mem_cons.1 hd).elim (fun e => by rw [e]; exact hox) (fun h => hop d (hb d h)))
          cases hg : goL (visit (parsO os) (errO os) f) ps (s.opn x) with
          | bad e =>
            rw [hg] at h3
            refine ⟨?_, fun s' h => ?_⟩
            · show (goL (visit (parsO os) (errO os) f) ps (s.opn x)).then _ ≠ _
              rw [hg]
              simpa using h3
            · have h' : (goL (visit (parsO os) (errO os) f) ps (s.opn x)).then (fun s' => .ok (s'.plc x)) = .ok s' := h
              rw [hg] at h'
              simp at h'
          | ok s1 =>
            refine ⟨?_, fun s' h y hy => ?_⟩
            · show (goL (visit (parsO os) (errO os) f) ps (s.opn x)).then _ ≠ _
              rw [hg]
              simp
            have h' : (goL (visit (parsO os) (errO os) f) ps (s.opn x)).then (fun s' => .ok (s'.plc x)) = .ok s' := h
            rw [hg, GR.ok_then] at h'
            cases h'
            have hne : y ≠ x := fun e => h1 (e ▸ hy)
            show setG s1.been x 2 y = 1
            simp only [setG, hne, if_false]
            exact h4 s1 hg y (hop y hy)
theorem ord_bad {os : List Ob} {l : List Int} {er : Int} (h : ordG os l GS.none = .bad er) : er ≠ 0 := by
  rintro rfl
  exact (goL_open (D := []) (fun x s hs => visit_open (os.length + 2) [] x s List.nodup_nil (fun d hd => by cases hd) (by simp) hs) l GS.none (fun d hd => by cases hd)).1 h
end Go.Proofs.YtncagdfbgpdhfaaGreat
