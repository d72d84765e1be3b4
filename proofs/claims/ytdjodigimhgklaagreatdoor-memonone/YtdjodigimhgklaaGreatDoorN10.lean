import Derived.Test.YtdjodigimhgklaaGreatDoorN08
/- Plain: pairs put into their place one by one. -/
namespace Go.Proofs.YtdjodigimhgklaaGreatDoor
open Go.RowKit

/-- where the first pair with that From stands; -1: nowhere -/
def idxF : List Pr → Nat → Nat → Int
  | [], _, _ => -1
  | p :: r, x, k => if p.1 = x then (k : Int) else idxF r x (k + 1)
theorem idxF_none : ∀ (l : List Pr) (x k : Nat), lookP l x = none → idxF l x k = -1
  | [], _, _, _ => rfl
  | p :: r, x, k, h => by
    rw [lookP] at h
    rw [idxF]
    split at h
    · cases h
    · rename_i hp
      rw [if_neg hp]
      exact idxF_none r x (k + 1) h
theorem idxF_some : ∀ (l : List Pr) (x k y : Nat), lookP l x = some y → ∃ j, idxF l x k = ((k + j : Nat) : Int) ∧ l[j]? = some (x, y)
  | [], _, _, _, h => by cases h
  | p :: r, x, k, y, h => by
    rw [lookP] at h
    rw [idxF]
    split at h
    · rename_i hp
      cases h
      rw [if_pos hp]
      exact ⟨0, rfl, by rw [← hp]; rfl⟩
    · rename_i hp
      rw [if_neg hp]
      obtain ⟨j, h1, h2⟩ := idxF_some r x (k + 1) y h
      exact ⟨j + 1, by rw [h1]; congr 1; omega, by simpa using h2⟩
/-- what Put answers -/
def PutR (l : List Pr) (p : Pr) (l' : List Pr) : Prop :=
  (lookP l p.1 ≠ none ∧ l' = l) ∨ (lookP l p.1 = none ∧ ∃ k, k ≤ l.length ∧ l' = l.take k ++ p :: l.drop k ∧ (∀ q ∈ l.take k, q.1 < p.1) ∧ ∀ q, l[k]? = some q → ¬ q.1 < p.1)
theorem mem_key {l : List Pr} {x : Nat} (h : lookP l x ≠ none) : x ∈ l.map (·.1) := by
  cases hy : lookP l x with
  | none => exact absurd hy h
  | some y => exact List.mem_map.2 ⟨(x, y), look_mem hy, rfl⟩
theorem key_none {l : List Pr} {x : Nat} : lookP l x = none ↔ x ∉ l.map (·.1) := by
  rw [look_none]
  constructor
  · intro h hx
    obtain ⟨p, hp, e⟩ := List.mem_map.1 hx
    exact h p hp e
  · intro h p hp e
    exact h (List.mem_map.2 ⟨p, hp, e⟩)
theorem putR_ris {l l' : List Pr} {p : Pr} (hl : Ris l) (h : PutR l p l') : Ris l' := by
  rcases h with ⟨_, rfl⟩ | ⟨hn, k, hk, rfl, h1, h2⟩
  · exact hl
  · unfold Ris at hl ⊢
    have hl2 := hl
    rw [← List.take_append_drop k l, List.pairwise_append] at hl2
    obtain ⟨a1, a2, a3⟩ := hl2
    have hd : ∀ q ∈ l.drop k, p.1 < q.1 := by
      intro q hq
      cases hdk : l.drop k with
      | nil => rw [hdk] at hq; cases hq
      | cons d r =>
        have e0 : l[k]? = some d := by
          have := congrArg (·[0]?) hdk
          simpa using this
        have h3 := h2 d e0
        have h4 : d.1 ≠ p.1 := (look_none l p.1).1 hn d (List.mem_of_getElem? e0)
        rw [hdk] at hq a2
        rcases List.mem_cons.1 hq with rfl | hq
        · omega
        · have := (List.pairwise_cons.1 a2).1 q hq
          omega
    rw [List.pairwise_append, List.pairwise_cons]
    refine ⟨a1, ⟨hd, a2⟩, fun a ha b hb => ?_⟩
    rcases List.mem_cons.1 hb with rfl | hb
    · exact h1 a ha
    · exact a3 a ha b hb
theorem putR_look {l l' : List Pr} {p : Pr} (h : PutR l p l') (x : Nat) : lookP l' x = (lookP l x).or (if p.1 = x then some p.2 else none) := by
  rcases h with ⟨hn, rfl⟩ | ⟨hn, k, hk, rfl, _, _⟩
  · by_cases e : p.1 = x
    · subst e
      cases hy : lookP l' p.1 with
      | none => exact absurd hy hn
      | some y => rfl
    · rw [if_neg e]
      cases lookP l' x <;> rfl
  · rw [look_app, lookP]
    have e0 : lookP l x = (lookP (l.take k) x).or (lookP (l.drop k) x) := by rw [← look_app, List.take_append_drop]
    rw [e0]
    by_cases e : p.1 = x
    · subst e
      rw [if_pos rfl]
      rw [e0] at hn
      rw [hn]
      cases h1 : lookP (l.take k) p.1 with
      | none => rw [if_pos rfl]
      | some y => rw [h1] at hn; cases hn
    · rw [if_neg e, if_neg e]
      cases lookP (l.take k) x <;> cases lookP (l.drop k) x <;> rfl
theorem putR_len {l l' : List Pr} {p : Pr} (h : PutR l p l') : l'.length ≤ l.length + 1 := by
  rcases h with ⟨_, rfl⟩ | ⟨_, k, hk, rfl, _⟩
  · omega
  · simp; omega
theorem putR_ok {l l' : List Pr} {p : Pr} (h : PutR l p l') (hl : PrOk l) (hp : PrOk [p]) : PrOk l' := by
  rcases h with ⟨_, rfl⟩ | ⟨_, k, hk, rfl, _⟩
  · exact hl
  · exact (hl.take k).app (PrOk.cons hp.head.1 hp.head.2 (hl.drop k))
/-- what Sorted answers -/
structure SortR (l l' : List Pr) : Prop where
  ris : Ris l'
  look : ∀ x, lookP l' x = lookP l x
  ok : PrOk l → PrOk l'
  len : l'.length ≤ l.length
  one : l'.length = l.length ↔ Once l
theorem SortR.start : SortR [] [] := ⟨List.Pairwise.nil, fun _ => rfl, fun h => h, Nat.le_refl _, ⟨fun _ => List.nodup_nil, fun _ => rfl⟩⟩
theorem SortR.step {l l' l'' : List Pr} {p : Pr} (h : SortR l l') (hp : PutR l' p l'') : SortR (l ++ [p]) l'' := by
  refine ⟨putR_ris h.ris hp, fun x => ?_, fun hok => ?_, ?_, ?_⟩
  · rw [putR_look hp, h.look, look_app]
    rfl
  · have h1 : PrOk l := fun q hq => hok q (List.mem_append_left _ hq)
    have h2 : PrOk [p] := fun q hq => hok q (List.mem_append_right _ hq)
    exact putR_ok hp (h.ok h1) h2
  · have := putR_len hp
    have := h.len
    simp; omega
  · have e : Once (l ++ [p]) ↔ Once l ∧ lookP l p.1 = none := by
      unfold Once
      rw [List.map_append, List.nodup_append, key_none]
      simp only [List.map_cons, List.map_nil, List.mem_singleton]
      constructor
      · rintro ⟨a1, _, a3⟩
        exact ⟨a1, fun hx => a3 _ hx _ rfl rfl⟩
      · rintro ⟨a1, a2⟩
        exact ⟨a1, by simp, fun a ha b hb e => a2 (by rw [← hb, ← e]; exact ha)⟩
    rw [e, ← h.one, ← h.look]
    have hl := h.len
    rw [List.length_append, List.length_singleton]
    rcases hp with ⟨hn, rfl⟩ | ⟨hn, k, hk, rfl, _⟩
    · exact ⟨fun h => by omega, fun ⟨_, h⟩ => absurd h hn⟩
    · rw [List.length_append, List.length_cons, List.length_take, List.length_drop]
      exact ⟨fun h => ⟨by omega, hn⟩, fun ⟨h, _⟩ => by omega⟩
/-- pairs that rise, found in l, are what Sorted answers -/
theorem SortR.uniq {l l' d : List Pr} (h : SortR l l') (hd : Ris d) (hl : ∀ x, lookP d x = lookP l x) : d = l' :=
  ris_ext d l' hd h.ris fun x => by rw [hl, h.look]
end Go.Proofs.YtdjodigimhgklaaGreatDoor

/- Plain: two lists of pairs joined. -/
namespace Go.Proofs.YtdjodigimhgklaaGreatDoor
open Go.RowKit

/-- two lists by rising From; of two with one From that of the first -/
def joinL : List Pr → List Pr → List Pr
  | [], m => m
  | p :: l, [] => p :: l
  | p :: l, q :: m => if q.1 < p.1 then q :: joinL (p :: l) m else if q.1 = p.1 then p :: joinL l m else p :: joinL l (q :: m)
termination_by l m => l.length + m.length
theorem joinL_nil (l : List Pr) : joinL l [] = l := by cases l <;> simp [joinL]
theorem joinL_less {p q : Pr} {l m : List Pr} (h : q.1 < p.1) : joinL (p :: l) (q :: m) = q :: joinL (p :: l) m := by rw [joinL, if_pos h]
theorem joinL_same {p q : Pr} {l m : List Pr} (h : q.1 = p.1) : joinL (p :: l) (q :: m) = p :: joinL l m := by rw [joinL, if_neg (by omega), if_pos h]
theorem joinL_more {p q : Pr} {l m : List Pr} (h : p.1 < q.1) : joinL (p :: l) (q :: m) = p :: joinL l (q :: m) := by rw [joinL, if_neg (by omega), if_neg (by omega)]
theorem joinL_mem (l m : List Pr) : ∀ x ∈ joinL l m, x ∈ l ∨ x ∈ m := by
  induction l, m using joinL.induct with
  | case1 m => intro x h; rw [joinL] at h; exact .inr h
  | case2 p l => intro x h; rw [joinL_nil] at h; exact .inl h
  | case3 p l q m hlt ih =>
    intro x h
    rw [joinL_less hlt] at h
    rcases List.mem_cons.1 h with rfl | h
    · exact .inr (List.mem_cons_self ..)
    · exact (ih x h).imp id (List.mem_cons_of_mem _)
  | case4 p l q m hlt he ih =>
    intro x h
    rw [joinL_same he] at h
    rcases List.mem_cons.1 h with rfl | h
    · exact .inl (List.mem_cons_self ..)
    · exact (ih x h).imp (List.mem_cons_of_mem _) (List.mem_cons_of_mem _)
  | case5 p l q m hlt he ih =>
    intro x h
    rw [joinL_more (by omega)] at h
    rcases List.mem_cons.1 h with rfl | h
    · exact .inl (List.mem_cons_self ..)
    · exact (ih x h).imp (List.mem_cons_of_mem _) id
theorem joinL_len (l m : List Pr) : (joinL l m).length ≤ l.length + m.length := by
  induction l, m using joinL.induct with
  | case1 m => rw [joinL]; simp
  | case2 p l => rw [joinL_nil]; simp
  | case3 p l q m hlt ih => rw [joinL_less hlt]; simp only [List.length_cons] at ih ⊢; omega
  | case4 p l q m hlt he ih => rw [joinL_same he]; simp only [List.length_cons] at ih ⊢; omega
  | case5 p l q m hlt he ih => rw [joinL_more (by omega)]; simp only [List.length_cons] at ih ⊢; omega
theorem joinL_ok {l m : List Pr} (hl : PrOk l) (hm : PrOk m) : PrOk (joinL l m) := fun p hp => (joinL_mem l m p hp).elim (hl p) (hm p)
theorem joinL_ris (l m : List Pr) : Ris l → Ris m → Ris (joinL l m) := by
  unfold Ris
  induction l, m using joinL.induct with
  | case1 m => intro _ h; rw [joinL]; exact h
  | case2 p l => intro h _; rw [joinL_nil]; exact h
  | case3 p l q m hlt ih =>
    intro hl hm
    rw [joinL_less hlt]
    have hm' := List.pairwise_cons.1 hm
    have hl' := List.pairwise_cons.1 hl
    refine List.pairwise_cons.2 ⟨fun x hx => ?_, ih hl hm'.2⟩
    rcases joinL_mem _ _ x hx with h | h
    · rcases List.mem_cons.1 h with rfl | h
      · exact hlt
      · have := hl'.1 x h; omega
    · exact hm'.1 x h
  | case4 p l q m hlt he ih =>
    intro hl hm
    rw [joinL_same he]
    have hm' := List.pairwise_cons.1 hm
    have hl' := List.pairwise_cons.1 hl
    refine List.pairwise_cons.2 ⟨fun x hx => ?_, ih hl'.2 hm'.2⟩
    rcases joinL_mem _ _ x hx with h | h
    · exact hl'.1 x h
    · have := hm'.1 x h; omega
  | case5 p l q m hlt he ih =>
    intro hl hm
    rw [joinL_more (by omega)]
    have hm' := List.pairwise_cons.1 hm
    have hl' := List.pairwise_cons.1 hl
    refine List.pairwise_cons.2 ⟨fun x hx => ?_, ih hl'.2 hm⟩
    rcases joinL_mem _ _ x hx with h | h
    · exact hl'.1 x h
    · rcases List.mem_cons.1 h with rfl | h
      · omega
      · have := hm'.1 x h; omega
theorem joinL_look (l m : List Pr) (x : Nat) : Ris l → Ris m → lookP (joinL l m) x = (lookP l x).or (lookP m x) := by
  unfold Ris
  induction l, m using joinL.induct with
  | case1 m => intro _ _; rw [joinL]; rfl
  | case2 p l => intro _ _; rw [joinL_nil]; cases lookP (p :: l) x <;> rfl
  | case3 p l q m hlt ih =>
    intro hl hm
    have hm' := List.pairwise_cons.1 hm
    have hl' := List.pairwise_cons.1 hl
    rw [joinL_less hlt, lookP, ih hl hm'.2]
    by_cases e : q.1 = x
    · have hn : lookP (p :: l) x = none := (look_none _ x).2 fun y hy => by
        rcases List.mem_cons.1 hy with rfl | hy
        · omega
        · have := hl'.1 y hy; omega
      rw [if_pos e, hn, lookP, if_pos e]
      rfl
    · rw [if_neg e, lookP.eq_def (q :: m)]
      simp only [if_neg e]
  | case4 p l q m hlt he ih =>
    intro hl hm
    have hm' := List.pairwise_cons.1 hm
    have hl' := List.pairwise_cons.1 hl
    rw [joinL_same he, lookP, ih hl'.2 hm'.2, lookP]
    by_cases e : p.1 = x
    · simp only [if_pos e]
      rfl
    · simp only [if_neg e]
      rw [lookP, if_neg (by omega)]
  | case5 p l q m hlt he ih =>
    intro hl hm
    have hl' := List.pairwise_cons.1 hl
    rw [joinL_more (by omega), lookP, ih hl'.2 hm, lookP.eq_def (p :: l)]
    by_cases e : p.1 = x
    · simp only [if_pos e]
      rfl
    · simp only [if_neg e]
end Go.Proofs.YtdjodigimhgklaaGreatDoor
