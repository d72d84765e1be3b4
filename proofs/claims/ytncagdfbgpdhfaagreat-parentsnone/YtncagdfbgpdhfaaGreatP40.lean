import Derived.Test.YtncagdfbgpdhfaaGreatP34
/- What going through keeps; a history told with more blocks that stay. -/
namespace Go.Proofs.YtncagdfbgpdhfaaGreat
open Go.RowKit Go.Maps

theorem goL_rel {v : Int → GS → GR} (Rl : GS → GS → Prop) (hr : ∀ s, Rl s s) (ht : ∀ a b c, Rl a b → Rl b c → Rl a c) (hv : ∀ x s s', v x s = .ok s' → Rl s s') : ∀ l s s', goL v l s = .ok s' → Rl s s'
  | [], s, s', h => by simp only [goL, GR.ok.injEq] at h; subst h; exact hr s
  | x :: r, s, s', h => by
    simp only [goL] at h
    cases h1 : v x s with
    | bad e => rw [h1] at h; cases h
    | ok s1 => rw [h1] at h; exact ht _ _ _ (hv x s s1 h1) (goL_rel Rl hr ht hv r s1 s' h)
theorem visit_rel {P : Int → Option (List Int)} {ge : Int → Int} (Rl : GS → GS → Prop) (hr : ∀ s, Rl s s) (ht : ∀ a b c, Rl a b → Rl b c → Rl a c) (ho : ∀ s x, Rl s (s.opn x)) (hp : ∀ s x, Rl s (s.plc x)) : ∀ f x s s', visit P ge f x s = .ok s' → Rl s s'
  | 0, x, s, s', h => by simp [visit] at h
  | f + 1, x, s, s', h => by
    simp only [visit] at h
    split at h
    · cases h
    · split at h
      · simp only [GR.ok.injEq] at h; subst h; exact hr s
      · cases hP : P x with
        | none => rw [hP] at h; cases h
        | some ps =>
          rw [hP] at h
          simp only at h
          cases h1 : goL (visit P ge f) ps (s.opn x) with
          | bad e => rw [h1] at h; cases h
          | ok s1 =>
            rw [h1] at h
            simp only [GR.ok_then, GR.ok.injEq] at h
            subst h
            exact ht _ _ _ (ho s x) (ht _ _ _ (goL_rel Rl hr ht (visit_rel Rl hr ht ho hp f) ps _ _ h1) (hp s1 x))
/-- how far: not met, being gone through, placed -/
def B3 (s : GS) : Prop := ∀ x, s.been x = 0 ∨ s.been x = 1 ∨ s.been x = 2
def Grows (s s' : GS) : Prop := (B3 s → B3 s') ∧ ∃ t, s'.ord = s.ord ++ t
theorem goL_grows {P : Int → Option (List Int)} {ge : Int → Int} {f : Nat} {l : List Int} {s s' : GS} (h : goL (visit P ge f) l s = .ok s') : Grows s s' := by
  have hr : ∀ s, Grows s s := fun s => ⟨id, [], by simp⟩
  have ht : ∀ a b c, Grows a b → Grows b c → Grows a c := fun a b c h k => ⟨fun x => k.1 (h.1 x), by
    obtain ⟨t, ht⟩ := h.2
    obtain ⟨u, hu⟩ := k.2
    exact ⟨t ++ u, by rw [hu, ht, List.append_assoc]⟩⟩
  refine goL_rel Grows hr ht (visit_rel Grows hr ht (fun s x => ⟨fun hb y => ?_, [], by simp [GS.opn]⟩) (fun s x => ⟨fun hb y => ?_, [x], rfl⟩) f) l s s' h
  · simp only [GS.opn, setG]
    split
    · exact .inr (.inl rfl)
    · exact hb y
  · simp only [GS.plc, setG]
    split
    · exact .inr (.inr rfl)
    · exact hb y
end Go.Proofs.YtncagdfbgpdhfaaGreat

/- Orders, plain: what stands behind what; heads gone through behind others. -/
namespace Go.Proofs.YtncagdfbgpdhfaaGreat

/-- each stands behind its parents -/
def Topo (P : Int → Option (List Int)) (H : List Int) : Prop := ∀ (i : Nat) x, H[i]? = some x → ∃ ps, P x = some ps ∧ ∀ p ∈ ps, ∃ j, j < i ∧ H[j]? = some p
structure GInv (P : Int → Option (List Int)) (s : GS) : Prop where
  topo : Topo P s.ord
  two : ∀ x, s.been x = 2 ↔ x ∈ s.ord
  nd : s.ord.Nodup
theorem Topo.snoc {P : Int → Option (List Int)} {H : List Int} {x : Int} {ps : List Int} (h : Topo P H) (hp : P x = some ps) (hs : ∀ p ∈ ps, p ∈ H) : Topo P (H ++ [x]) := by
  intro i y hy
  by_cases hi : i < H.length
  · rw [List.getElem?_append_left hi] at hy
    obtain ⟨qs, h1, h2⟩ := h i y hy
    refine ⟨qs, h1, fun p hpq => ?_⟩
    obtain ⟨j, hj, hj2⟩ := h2 p hpq
    exact ⟨j, hj, by rw [List.getElem?_append_left (by omega)]; exact hj2⟩
  · rw [List.getElem?_append_right (by omega)] at hy
    have hi2 : i - H.length = 0 := by
      have := (List.getElem?_eq_some_iff.1 hy).1
      simp at this
      omega
    rw [hi2] at hy
    simp at hy
    subst hy
    refine ⟨ps, hp, fun p hpq => ?_⟩
    obtain ⟨j, hj⟩ := List.mem_iff_getElem?.1 (hs p hpq)
    have hjl := (List.getElem?_eq_some_iff.1 hj).1
    exact ⟨j, by omega, by rw [List.getElem?_append_left hjl]; exact hj⟩
/-- what going through leaves -/
def Gone (P : Int → Option (List Int)) (l : List Int) (s s' : GS) : Prop := GInv P s' ∧ (∀ x ∈ l, x ∈ s'.ord) ∧ (∀ x, s'.been x = 1 ↔ s.been x = 1) ∧ ∃ t, s'.ord = s.ord ++ t
theorem goL_gone {P : Int → Option (List Int)} {v : Int → GS → GR} (hv : ∀ x s s', GInv P s → v x s = .ok s' → Gone P [x] s s') : ∀ l s s', GInv P s → goL v l s = .ok s' → Gone P l s s'
  | [], s, s', hi, h => by simp only [goL, GR.ok.injEq] at h; subst h; exact ⟨hi, by simp, fun _ => Iff.rfl, [], by simp⟩
  | x :: r, s, s', hi, h => by
    simp only [goL] at h
    cases h1 : v x s with
    | bad e => rw [h1] at h; cases h
    | ok s1 =>
      rw [h1] at h
      obtain ⟨a1, a2, a3, t, a4⟩ := hv x s s1 hi h1
      obtain ⟨b1, b2, b3, u, b4⟩ := goL_gone hv r s1 s' a1 h
      refine ⟨b1, fun y hy => ?_, fun y => (b3 y).trans (a3 y), t ++ u, by rw [b4, a4, List.append_assoc]⟩
      rcases List.mem_cons.1 hy with rfl | hy
      · rw [b4]; exact List.mem_append.2 (.inl (a2 y (by simp)))
      · exact b2 y hy
theorem visit_gone {P : Int → Option (List Int)} {ge : Int → Int} : ∀ f x s s', GInv P s → visit P ge f x s = .ok s' → Gone P [x] s s'
  | 0, x, s, s', _, h => by simp [visit] at h
  | f + 1, x, s, s', hi, h => by
    simp only [visit] at h
    by_cases h1 : s.been x = 1
    · rw [if_pos h1] at h; cases h
    · rw [if_neg h1] at h
      by_cases h2 : s.been x = 2
      · rw [if_pos h2] at h
        simp only [GR.ok.injEq] at h
        subst h
        exact ⟨hi, fun y hy => by simp at hy; subst hy; exact (hi.two y).1 h2, fun _ => Iff.rfl, [], by simp⟩
      · rw [if_neg h2] at h
        cases hP : P x with
        | none => rw [hP] at h; cases h
        | some ps =>
          rw [hP] at h
          simp only at h
          cases hg : goL (visit P ge f) ps (s.opn x) with
          | bad e => rw [hg] at h; cases h
          | ok s1 =>
            rw [hg] at h
            simp only [GR.ok_then, GR.ok.injEq] at h
            subst h
            have hi1 : GInv P (s.opn x) := ⟨hi.topo, fun y => by
              simp only [GS.opn, setG]
              by_cases e : y = x
              · subst e
                rw [if_pos rfl]
                exact ⟨fun h => by omega, fun h => absurd ((hi.two y).2 h) h2⟩
              · rw [if_neg e]; exact hi.two y, hi.nd⟩
            obtain ⟨a1, a2, a3, t, a4⟩ := goL_gone (fun x s s' => visit_gone f x s s') ps _ _ hi1 hg
            have hx1 : s1.been x = 1 := (a3 x).2 (by simp [GS.opn, setG])
            have hxn : x ∉ s1.ord := fun hm => by have := (a1.two x).2 hm; omega
            refine ⟨⟨a1.topo.snoc hP a2, fun y => ?_, ?_⟩, fun y hy => by simp at hy; subst hy; simp [GS.plc], fun y => ?_, t ++ [x], ?_⟩
            · simp only [GS.plc, setG, List.mem_append, List.mem_singleton]
              by_cases e : y = x
              · simp [e]
              · rw [if_neg e]
                exact ⟨fun h => .inl ((a1.two y).1 h), fun h => by
                  rcases h with h | h
                  · exact (a1.two y).2 h
                  · exact absurd h e⟩
            · show (s1.ord ++ [x]).Nodup
              rw [List.nodup_append]
              exact ⟨a1.nd, by simp, fun a ha b hb => by simp at hb; subst hb; intro e; subst e; exact hxn ha⟩
            · simp only [GS.plc, setG]
              by_cases e : y = x
              · subst e
                rw [if_pos rfl]
                exact ⟨fun h => by omega, fun h => absurd h h1⟩
              · rw [if_neg e, a3 y]
                simp only [GS.opn, setG, if_neg e]
            · show s1.ord ++ [x] = _
              rw [a4]
              simp [GS.opn]
theorem ginv_none (P : Int → Option (List Int)) : GInv P GS.none := ⟨fun i x h => by simp [GS.none] at h, fun x => by simp [GS.none], by simp [GS.none]⟩
/-- ids of H gone through leave all but H as it is -/
def Same (H : List Int) (s s' : GS) : Prop := (∀ y, y ∉ H → s'.been y = s.been y) ∧ s'.ord.filter (fun y => decide (y ∉ H)) = s.ord.filter (fun y => decide (y ∉ H))
theorem visit_in {P : Int → Option (List Int)} {ge : Int → Int} {H : List Int} (hT : Topo P H) (hN : H.Nodup) : ∀ (f i : Nat) (x : Int) (s : GS), i < f → H[i]? = some x → GInv P s → (∀ j y, j ≤ i → H[j]? = some y → s.been y ≠ 1) → ∃ s', visit P ge f x s = .ok s' ∧ Same H s s'
  | 0, i, x, s, hf, _, _, _ => by omega
  | f + 1, i, x, s, hf, hx, hi, hb => by
    simp only [visit]
    rw [if_neg (hb i x (Nat.le_refl _) hx)]
    by_cases h2 : s.been x = 2
    · rw [if_pos h2]; exact ⟨s, rfl, fun _ _ => rfl, rfl⟩
    · rw [if_neg h2]
      obtain ⟨ps, hP, hps⟩ := hT i x hx
      rw [hP]
      simp only
      have hxm : x ∈ H := List.mem_of_getElem? hx
      have hi1 : GInv P (s.opn x) := ⟨hi.topo, fun y => by
        simp only [GS.opn, setG]
        by_cases e : y = x
        · subst e
          rw [if_pos rfl]
          exact ⟨fun h => by omega, fun h => absurd ((hi.two y).2 h) h2⟩
        · rw [if_neg e]; exact hi.two y, hi.nd⟩
      have hgo : ∀ (qs : List Int) (u : GS), (∀ p ∈ qs, ∃ j, j < i ∧ H[j]? = some p) → GInv P u → (∀ j y, j < i → H[j]? = some y → u.been y ≠ 1) → ∃ u', goL (visit P ge f) qs u = .ok u' ∧ Same H u u' := by
        intro qs
        induction qs with
        | nil => intro u _ _ _; exact ⟨u, rfl, fun _ _ => rfl, rfl⟩
        | cons p r ih =>
          intro u hq hu hub
          obtain ⟨j, hj, hjp⟩ := hq p (by simp)
          obtain ⟨u1, hv, hs1⟩ := visit_in hT hN f j p u (by omega) hjp hu (fun k y hk hy => hub k y (by omega) hy)
          obtain ⟨g1, _, g3, _⟩ := visit_gone f p u u1 hu hv
          obtain ⟨u2, hg, hs2⟩ := ih u1 (fun q hq' => hq q (by simp [hq'])) g1 (fun k y hk hy h => hub k y hk hy ((g3 y).1 h))
          refine ⟨u2, ?_, fun y hy => (hs2.1 y hy).trans (hs1.1 y hy), hs2.2.trans hs1.2⟩
          simp only [goL]
          rw [hv]
          exact hg
      obtain ⟨s1, hg, hs1⟩ := hgo ps (s.opn x) hps hi1 (fun j y hj hy h => by
        have hne : y ≠ x := fun e => by
          subst e
          have h1 := (List.getElem?_eq_some_iff.1 hy)
          have h3 := (List.getElem?_eq_some_iff.1 hx)
          exact List.pairwise_iff_getElem.1 hN j i h1.1 h3.1 hj (h1.2.trans h3.2.symm)
        simp only [GS.opn, setG, if_neg hne] at h
        exact hb j y (by omega) hy h)
      rw [hg]
      refine ⟨s1.plc x, rfl, fun y hy => ?_, ?_⟩
      · have hne : y ≠ x := fun e => hy (e ▸ hxm)
        have := hs1.1 y hy
        simp only [GS.plc, GS.opn, setG, if_neg hne] at this ⊢
        exact this
      · have := hs1.2
        simp only [GS.plc, GS.opn, List.filter_append] at this ⊢
        rw [this]
        simp [hxm]
/-- s from nothing, t behind H -/
structure Sim (H : List Int) (s t : GS) : Prop where
  inn : ∀ x ∈ H, t.been x = 2
  out : ∀ x, x ∉ H → t.been x = s.been x
  ord : t.ord = H ++ s.ord.filter (fun y => decide (y ∉ H))
  one : ∀ x ∈ H, s.been x ≠ 1
/-- both end alike -/
def Alike (H : List Int) (a b : GR) : Prop := match a, b with
  | .bad e, .bad f => e = f
  | .ok s, .ok t => Sim H s t
  | _, _ => False
theorem visit_sim {P : Int → Option (List Int)} {ge : Int → Int} {H : List Int} (hT : Topo P H) (hN : H.Nodup) (C : List Int) (hC : ∀ x, (P x).isSome = true → x ∈ C) (F : Nat) (hF : C.length < F) :
    ∀ (f : Nat) (on : List Int), f + on.length = F → on.Nodup → (∀ x ∈ on, x ∉ H ∧ (P x).isSome = true) → ∀ (x : Int) (s t : GS), GInv P s → (∀ y ∈ on, s.been y = 1) → Sim H s t → Alike H (visit P ge f x s) (visit P ge f x t) := by
  have hHC : ∀ on : List Int, on.Nodup → (∀ x ∈ on, x ∉ H ∧ (P x).isSome = true) → on.length + H.length ≤ C.length := by
    intro on h1 h2
    have := nodup_le (on ++ H) C (by
      rw [List.nodup_append]
      exact ⟨h1, hN, fun a ha b hb e => by subst e; exact (h2 a ha).1 hb⟩) (fun x hx => by
      rcases List.mem_append.1 hx with hx | hx
      · exact hC x (h2 x hx).2
      · obtain ⟨i, hi⟩ := List.mem_iff_getElem?.1 hx
        obtain ⟨ps, hp, _⟩ := hT i x hi
        exact hC x (by rw [hp]; rfl))
    rw [List.length_append] at this
    exact this
  intro f
  induction f with
  | zero =>
    intro on hf h1 h2
    have := hHC on h1 h2
    omega
  | succ f ih =>
    intro on hf h1 h2 x s t hi hon hS
    by_cases hx : x ∈ H
    · obtain ⟨i, hix⟩ := List.mem_iff_getElem?.1 hx
      have hil := (List.getElem?_eq_some_iff.1 hix).1
      have := hHC on h1 h2
      obtain ⟨s', hv, hs1, hs2⟩ := visit_in (ge := ge) hT hN (f + 1) i x s (by omega) hix hi (fun j y _ hy => hS.one y (List.mem_of_getElem? hy))
      obtain ⟨_, _, g3, _⟩ := visit_gone (f + 1) x s s' hi hv
      rw [hv]
      have ht : visit P ge (f + 1) x t = .ok t := by simp [visit, hS.inn x hx]
      rw [ht]
      exact ⟨hS.inn, fun y hy => (hS.out y hy).trans (hs1 y hy).symm, by rw [hs2]; exact hS.ord, fun y hy h => hS.one y hy ((g3 y).1 h)⟩
    · have hb := hS.out x hx
      simp only [visit]
      rw [hb]
      by_cases e1 : s.been x = 1
      · rw [if_pos e1, if_pos e1]; exact rfl
      · rw [if_neg e1, if_neg e1]
        by_cases e2 : s.been x = 2
        · rw [if_pos e2, if_pos e2]; exact hS
        · rw [if_neg e2, if_neg e2]
          cases hP : P x with
          | none => exact rfl
          | some ps =>
            simp only
            have hxo : x ∉ on := fun h => e1 (hon x h)
            have hi1 : GInv P (s.opn x) := ⟨hi.topo, fun y => by
              simp only [GS.opn, setG]
              by_cases e : y = x
              · subst e
                rw [if_pos rfl]
                exact ⟨fun h => by omega, fun h => absurd ((hi.two y).2 h) e2⟩
              · rw [if_neg e]; exact hi.two y, hi.nd⟩
            have hS1 : Sim H (s.opn x) (t.opn x) := ⟨fun y hy => by
              have : y ≠ x := fun e => hx (e ▸ hy)
              simp only [GS.opn, setG, if_neg this]; exact hS.inn y hy, fun y hy => by
              simp only [GS.opn, setG]
              split
              · rfl
              · exact hS.out y hy, hS.ord, fun y hy => by
              have : y ≠ x := fun e => hx (e ▸ hy)
              simp only [GS.opn, setG, if_neg this]; exact hS.one y hy⟩
            have hgo : ∀ (qs : List Int) (u v : GS), GInv P u → (∀ y ∈ on ++ [x], u.been y = 1) → Sim H u v → Alike H (goL (visit P ge f) qs u) (goL (visit P ge f) qs v) := by
              intro qs
              induction qs with
              | nil => intro u v _ _ h; exact h
              | cons p r ihr =>
                intro u v hu ho hs
                have h := ih (on ++ [x]) (by rw [List.length_append]; simp; omega) (by
                  rw [List.nodup_append]
                  exact ⟨h1, by simp, fun a ha b hb e => by simp at hb; subst hb; subst e; exact hxo ha⟩) (fun y hy => by
                  rcases List.mem_append.1 hy with hy | hy
                  · exact h2 y hy
                  · simp at hy; subst hy; exact ⟨hx, by rw [hP]; rfl⟩) p u v hu ho hs
                simp only [goL]
                cases hu1 : visit P ge f p u with
                | bad e =>
                  rw [hu1] at h
                  cases hv1 : visit P ge f p v with
                  | bad e' => rw [hv1] at h; exact h
                  | ok v1 => rw [hv1] at h; exact h.elim
                | ok u1 =>
                  rw [hu1] at h
                  cases hv1 : visit P ge f p v with
                  | bad e' => rw [hv1] at h; exact h.elim
                  | ok v1 =>
                    rw [hv1] at h
                    obtain ⟨g1, _, g3, _⟩ := visit_gone f p u u1 hu hu1
                    exact ihr u1 v1 g1 (fun y hy => (g3 y).2 (ho y hy)) h
            have h := hgo ps (s.opn x) (t.opn x) hi1 (fun y hy => by
              simp only [GS.opn, setG]
              split
              · rfl
              · rename_i e
                rcases List.mem_append.1 hy with hy | hy
                · exact hon y hy
                · simp at hy; exact absurd hy e) hS1
            cases hu1 : goL (visit P ge f) ps (s.opn x) with
            | bad e =>
              rw [hu1] at h
              cases hv1 : goL (visit P ge f) ps (t.opn x) with
              | bad e' => rw [hv1] at h; exact h
              | ok v1 => rw [hv1] at h; exact h.elim
            | ok u1 =>
              rw [hu1] at h
              cases hv1 : goL (visit P ge f) ps (t.opn x) with
              | bad e' => rw [hv1] at h; exact h.elim
              | ok v1 =>
                rw [hv1] at h
                have hs : Sim H u1 v1 := h
                refine ⟨fun y hy => ?_, fun y hy => ?_, ?_, fun y hy => ?_⟩
                · have : y ≠ x := fun e => hx (e ▸ hy)
                  simp only [GS.plc, setG, if_neg this]; exact hs.inn y hy
                · simp only [GS.plc, setG]
                  split
                  · rfl
                  · exact hs.out y hy
                · show v1.ord ++ [x] = H ++ (u1.ord ++ [x]).filter _
                  rw [hs.ord, List.filter_append, List.append_assoc]
                  simp [hx]
                · have : y ≠ x := fun e => hx (e ▸ hy)
                  simp only [GS.plc, setG, if_neg this]; exact hs.one y hy
/-- heads gone through from nothing and behind others end alike; behind others only what these lack is placed -/
theorem btw_sim (os : List Ob) (l l2 : List Int) (gs : GS) (h : ordG os l GS.none = .ok gs) : GInv (parsO os) gs ∧ Alike gs.ord (ordG os l2 GS.none) (ordG os l2 gs) := by
  have h0 : goL (visit (parsO os) (errO os) (os.length + 2)) l GS.none = .ok gs := h
  obtain ⟨a1, _, a3, _⟩ := goL_gone (fun x s s' => visit_gone (os.length + 2) x s s') l _ _ (ginv_none (parsO os)) h0
  have hb3 : B3 gs := (goL_grows h0).1 fun x => .inl rfl
  have hS : Sim gs.ord GS.none gs := ⟨fun x hx => (a1.two x).2 hx, fun x hx => by
    have h1 : gs.been x ≠ 1 := fun e => by have := (a3 x).1 e; simp [GS.none] at this
    have h2 : gs.been x ≠ 2 := fun e => hx ((a1.two x).1 e)
    rcases hb3 x with e | e | e
    · rw [e]; rfl
    · exact absurd e h1
    · exact absurd e h2, by simp [GS.none], fun x _ => by simp [GS.none]⟩
  refine ⟨a1, ?_⟩
  have hC : ∀ x, (parsO os x).isSome = true → x ∈ oids os := fun x hx => by
    unfold parsO at hx
    cases hf : findO os x with
    | none => rw [hf] at hx; cases hx
    | some o =>
      obtain ⟨m1, m2⟩ := findO_mem hf
      unfold oids
      exact List.mem_map.2 ⟨o, m1, m2⟩
  have hv := visit_sim (ge := errO os) a1.topo a1.nd (oids os) hC (os.length + 2) (by unfold oids; rw [List.length_map]; omega) (os.length + 2) [] (by simp) (by simp) (by simp)
  unfold ordG
  have hgo : ∀ (qs : List Int) (u v : GS), GInv (parsO os) u → Sim gs.ord u v → Alike gs.ord (goL (visit (parsO os) (errO os) (os.length + 2)) qs u) (goL (visit (parsO os) (errO os) (os.length + 2)) qs v) := by
    intro qs
    induction qs with
    | nil => intro u v _ h; exact h
    | cons p r ihr =>
      intro u v hu hs
      have h := hv p u v hu (by simp) hs
      simp only [goL]
      cases hu1 : visit (parsO os) (errO os) (os.length + 2) p u with
      | bad e =>
        rw [hu1] at h
        cases hv1 : visit (parsO os) (errO os) (os.length + 2) p v with
        | bad e' => rw [hv1] at h; exact h
        | ok v1 => rw [hv1] at h; exact h.elim
      | ok u1 =>
        rw [hu1] at h
        cases hv1 : visit (parsO os) (errO os) (os.length + 2) p v with
        | bad e' => rw [hv1] at h; exact h.elim
        | ok v1 =>
          rw [hv1] at h
          obtain ⟨g1, _, _, _⟩ := visit_gone _ p u u1 hu hu1
          exact ihr u1 v1 g1 h
  exact hgo l2 _ _ (ginv_none _) hS
end Go.Proofs.YtncagdfbgpdhfaaGreat

/- The walks of Lines and Ancestor. -/
namespace Go.Proofs.YtncagdfbgpdhfaaGreat
open Go.RowKit Go.Maps

attribute [local go_sem] Oper.semAt_some

theorem lit_ids (W : World) (x y : Int) (fz : Nat × Nat) : Ids (W.alloc (.cells #[.int .u64 x, .int .u64 y] 31 fz)) (some ⟨W.heap.size, 0, none⟩) 2 [x, y] := by
  have hb := World.alloc_heap_new W (.cells #[.int .u64 x, .int .u64 y] 31 fz)
  generalize W.alloc (.cells #[.int .u64 x, .int .u64 y] 31 fz) = W' at hb
  refine ⟨rfl, fun _ => ⟨W.heap.size, 0, rfl, fun i z hi => ?_⟩⟩
  match i, hi with
  | 0, hi => simp at hi; subst hi; simp [World.cell?, hb]
  | 1, hi => simp at hi; subst hi; simp [World.cell?, hb]
end Go.Proofs.YtncagdfbgpdhfaaGreat

/- The walk of Depth. -/
namespace Go.Proofs.YtncagdfbgpdhfaaGreat
open Go.RowKit Go.Maps

attribute [local go_sem] Oper.semAt_some

end Go.Proofs.YtncagdfbgpdhfaaGreat

/- Ways and depths along an order, plain: each commit's number out of those of its parents; ancestors. -/
namespace Go.Proofs.YtncagdfbgpdhfaaGreat
open Go.RowKit Go.Maps

def psO (os : List Ob) (x : Int) : List Int := (parsO os x).getD []
theorem ord_inv {os : List Ob} {l : List Int} {gs : GS} (h : ordG os l GS.none = .ok gs) : GInv (parsO os) gs := (btw_sim os l [] gs h).1
end Go.Proofs.YtncagdfbgpdhfaaGreat

/- Bits laid on ancestors from an order's end, plain: what each commit has at the end (for the layer parents). -/
namespace Go.Proofs.YtncagdfbgpdhfaaGreat

def setN (f : Int → Nat) (x : Int) (v : Nat) : Int → Nat := fun y => if y = x then v else f y
/-- what a commit lays on its parents: with the mark 4, if it is sought -/
def bitsB (sought b : Nat) : Nat := if b &&& sought = sought then b ||| 4 else b
def orP : List Int → Nat → (Int → Nat) → Int → Nat
  | [], _, m => m
  | p :: r, b, m => orP r b (setN m p (m p ||| b))
def spr (P : Int → List Int) (sought : Nat) : List Int → (Int → Nat) → Int → Nat
  | [], m => m
  | x :: r, m => spr P sought r (orP (P x) (bitsB sought (m x)) m)
end Go.Proofs.YtncagdfbgpdhfaaGreat

/- What the marks of a list and of two commits say, plain (for the layer parents). -/
namespace Go.Proofs.YtncagdfbgpdhfaaGreat

/-- the marks of two commits: of whom it is an ancestor; 4: a proper ancestor of a common one -/
def pairM (a b : Int) : Int → Nat := fun h => (if h = a then 1 else 0) ||| (if h = b then 2 else 0)
end Go.Proofs.YtncagdfbgpdhfaaGreat
