import Derived.Test.YtncagdfbgpdhfaaGreatR39
import Derived.Test.YtncagdfbgpdhfaaGreatR36
/- ParentsLeast and ParentsBases, plain: what is left of a list, by ancestors. -/
namespace Go.Proofs.YtncagdfbgpdhfaaGreat

theorem redG_mem {B : Int → Bool} (x : Int) : ∀ (r seen : List Int), x ∈ redG B seen r ↔ x ∈ r ∧ B x = false ∧ x ∉ seen
  | [], seen => by simp [redG]
  | y :: r, seen => by
    simp only [redG]
    by_cases hc : (B y || seen.contains y) = true
    · rw [if_pos hc, redG_mem x r (y :: seen)]
      constructor
      · rintro ⟨h1, h2, h3⟩
        exact ⟨List.mem_cons_of_mem _ h1, h2, fun h => h3 (List.mem_cons_of_mem _ h)⟩
      · rintro ⟨h1, h2, h3⟩
        have hne : x ≠ y := fun e => by
          subst e
          rw [h2, Bool.false_or] at hc
          exact h3 (by simpa using hc)
        refine ⟨(List.mem_cons.1 h1).resolve_left hne, h2, fun h => ?_⟩
        exact (List.mem_cons.1 h).elim hne h3
    · rw [if_neg hc, List.mem_cons, redG_mem x r (y :: seen)]
      have hc' : B y = false ∧ y ∉ seen := by
        rw [Bool.not_eq_true, Bool.or_eq_false_iff] at hc
        exact ⟨hc.1, by simpa using hc.2⟩
      constructor
      · rintro (h | ⟨h1, h2, h3⟩)
        · subst h; exact ⟨by simp, hc'.1, hc'.2⟩
        · exact ⟨List.mem_cons_of_mem _ h1, h2, fun h => h3 (List.mem_cons_of_mem _ h)⟩
      · rintro ⟨h1, h2, h3⟩
        by_cases hne : x = y
        · exact .inl hne
        · exact .inr ⟨(List.mem_cons.1 h1).resolve_left hne, h2, fun h => (List.mem_cons.1 h).elim hne h3⟩
theorem redG_all {B : Int → Bool} : ∀ (r seen : List Int), r.Nodup → (∀ x ∈ r, B x = false ∧ x ∉ seen) → redG B seen r = r
  | [], _, _, _ => rfl
  | y :: r, seen, hn, h => by
    have hy := h y (by simp)
    have e1 : (B y || seen.contains y) = false := by rw [hy.1, Bool.false_or]; simpa using hy.2
    have hn2 := List.nodup_cons.1 hn
    simp only [redG, e1, Bool.false_eq_true, if_false]
    rw [redG_all r (y :: seen) hn2.2 (fun x hx => ⟨(h x (by simp [hx])).1, fun hm => (List.mem_cons.1 hm).elim (fun e => hn2.1 (e ▸ hx)) (h x (by simp [hx])).2⟩)]
theorem redP_mem {os : List Ob} {l : List Int} {g : GS} (h : ordG os l GS.none = .ok g) (x : Int) : x ∈ redP os g l ↔ x ∈ l ∧ ∀ y ∈ l, Anc (parsO os) x y → x = y := by
  have hb := list_below h x
  have hb' : (spr (psO os) 1 g.ord.reverse (listM l) x).testBit 2 = true ↔ ∃ y ∈ l, Anc (parsO os) x y ∧ x ≠ y := hb
  unfold redP
  rw [redG_mem]
  constructor
  · rintro ⟨h1, h2, _⟩
    refine ⟨h1, fun y hy hA => Classical.byContradiction fun e => ?_⟩
    rw [hb'.2 ⟨y, hy, hA, e⟩] at h2
    cases h2
  · rintro ⟨h1, h2⟩
    refine ⟨h1, ?_, by simp⟩
    rw [← Bool.not_eq_true, hb']
    rintro ⟨y, hy, hA, e⟩
    exact e (h2 y hy hA)
/-- Ancestor of two that stand in an order -/
theorem anc_at {os : List Ob} {l : List Int} {g : GS} (h : ordG os l GS.none = .ok g) {a b : Int} (ha : a ∈ g.ord) (hb : b ∈ g.ord) : ∃ gx, ordG os [a, b] GS.none = .ok gx ∧ (decide (0 < linesG os gx.ord a b) = true ↔ Anc (parsO os) a b) := by
  obtain ⟨gx, h1, h2⟩ := laws_anc h ha hb
  exact ⟨gx, h1, by rw [decide_eq_true_iff]; exact h2⟩
theorem goL_open {v : Int → GS → GR} {D : List Int} (hv : ∀ x s, (∀ d ∈ D, s.been d = 1) → v x s ≠ .bad 0 ∧ ∀ s', v x s = .ok s' → ∀ y, s.been y = 1 → s'.been y = 1) : ∀ (l : List Int) (s : GS), (∀ d ∈ D, s.been d = 1) → goL v l s ≠ .bad 0 ∧ ∀ s', goL v l s = .ok s' → ∀ y, s.been y = 1 → s'.been y = 1
  | [], s, _ => ⟨by simp [goL], fun s' h y hy => by simp only [goL, GR.ok.injEq] at h; subst h; exact hy⟩
  | x :: r, s, h => by
    obtain ⟨h1, h2⟩ := hv x s h
    simp only [goL]
    cases hx : v x s with
    | bad e =>
      rw [hx] at h1
      exact ⟨by simpa using h1, fun s' h' => by simp at h'⟩
    | ok s1 =>
      have h3 := h2 s1 hx
      obtain ⟨h4, h5⟩ := goL_open hv r s1 (fun d hd => h3 d (h d hd))
      exact ⟨by simpa using h4, fun s' h' y hy => h5 s' (by simpa using h') y (h3 y hy)⟩
theorem visit_open {os : List Ob} : ∀ (f : Nat) (D : List Int) (x : Int) (s : GS), D.Nodup → (∀ d ∈ D, (parsO os d).isSome = true) → os.length < D.length + f → (∀ d ∈ D, s.been d = 1) → visit (parsO os) (errO os) f x s ≠ .bad 0 ∧ ∀ s', visit (parsO os) (errO os) f x s = .ok s' → ∀ y, s.been y = 1 → s'.been y = 1
  | 0, D, x, s, hn, hp, hl, _ => by
    have := nodup_le D (oids os) hn (fun y hy => findO_oids (hp y hy))
    simp only [oids, List.length_map] at this
    omega
  | f + 1, D, x, s, hn, hp, hl, hb => by
    simp only [visit]
    by_cases h1 : s.been x = 1
    · rw [if_pos h1]; exact ⟨by simp, fun s' h => by cases h⟩
    · rw [if_neg h1]
      by_cases h2 : s.been x = 2
      · rw [if_pos h2]; exact ⟨by simp, fun s' h y hy => by cases h; exact hy⟩
      · rw [if_neg h2]
        cases hx : parsO os x with
        | none =>
          refine ⟨?_, fun s' h => by cases h⟩
          simp only [ne_eq, GR.bad.injEq, errO]
          split <;> decide
        | some ps =>
          have hnx : x ∉ D := fun h => h1 (hb x h)
          have hop : ∀ y, s.been y = 1 → (s.opn x).been y = 1 := fun y hy => by
            show setG s.been x 1 y = 1
            unfold setG
            split
            · rfl
            · exact hy
          have hox : (s.opn x).been x = 1 := by show setG s.been x 1 x = 1; simp [setG]
          obtain ⟨h3, h4⟩ := goL_open (D := x :: D) (v := visit (parsO os) (errO os) f) (fun z t ht => visit_open f (x :: D) z t (List.nodup_cons.2 ⟨hnx, hn⟩) (fun d hd => (List.mem_cons.1 hd).elim (fun e => by rw [e, hx]; rfl) (hp d)) (by simp only [List.length_cons]; omega) ht) ps (s.opn x) (fun d hd => (List.mem_cons.1 hd).elim (fun e => by rw [e]; exact hox) (fun h => hop d (hb d h)))
          cases hg : goL (visit (parsO os) (errO os) f) ps (s.opn x) with
          | bad e =>
            rw [hg] at h3
            refine ⟨?_, fun s' h => ?_⟩
            · show (goL (visit (parsO os) (errO os) f) ps (s.opn x)).then _ ≠ _
              rw [hg]
              simpa using h3
            · have h' : (goL (visit (parsO os) (errO os) f) ps (s.opn x)).then (fun s' => .ok (s'.plc x)) = .ok s' := h
              rw [hg] at h'
              simp at h'
          | ok s1 =>
            refine ⟨?_, fun s' h y hy => ?_⟩
            · show (goL (visit (parsO os) (errO os) f) ps (s.opn x)).then _ ≠ _
              rw [hg]
              simp
            have h' : (goL (visit (parsO os) (errO os) f) ps (s.opn x)).then (fun s' => .ok (s'.plc x)) = .ok s' := h
            rw [hg, GR.ok_then] at h'
            cases h'
            have hne : y ≠ x := fun e => h1 (e ▸ hy)
            show setG s1.been x 2 y = 1
            simp only [setG, hne, if_false]
            exact h4 s1 hg y (hop y hy)
theorem ord_bad {os : List Ob} {l : List Int} {er : Int} (h : ordG os l GS.none = .bad er) : er ≠ 0 := by
  rintro rfl
  exact (goL_open (D := []) (fun x s hs => visit_open (os.length + 2) [] x s List.nodup_nil (fun d hd => by cases hd) (by simp) hs) l GS.none (fun d hd => by cases hd)).1 h
end Go.Proofs.YtncagdfbgpdhfaaGreat
