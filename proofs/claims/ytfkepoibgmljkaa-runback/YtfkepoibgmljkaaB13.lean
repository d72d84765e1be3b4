import Derived.Test.YtfkepoibgmljkaaB04
import Derived.Test.YtfkepoibgmljkaaB11
import Derived.Test.YtfkepoibgmljkaaB12
/- Plain: two lists of pairs joined. -/
namespace Go.Proofs.Ytfkepoibgmljkaa
open Go.RowKit

/-- two lists by rising From; of two with one From that of the first -/
def joinL : List Pr → List Pr → List Pr
  | [], m => m
  | p :: l, [] => p :: l
  | p :: l, q :: m => if q.1 < p.1 then q :: joinL (p :: l) m else if q.1 = p.1 then p :: joinL l m else p :: joinL l (q :: m)
termination_by l m => l.length + m.length
theorem joinL_nil (l : List Pr) : joinL l [] = l := by cases l <;> simp [joinL]
theorem joinL_less {p q : Pr} {l m : List Pr} (h : q.1 < p.1) : joinL (p :: l) (q :: m) = q :: joinL (p :: l) m := by rw [joinL, if_pos h]
theorem joinL_same {p q : Pr} {l m : List Pr} (h : q.1 = p.1) : joinL (p :: l) (q :: m) = p :: joinL l m := by rw [joinL, if_neg (by omega), if_pos h]
theorem joinL_more {p q : Pr} {l m : List Pr} (h : p.1 < q.1) : joinL (p :: l) (q :: m) = p :: joinL l (q :: m) := by rw [joinL, if_neg (by omega), if_neg (by omega)]
theorem joinL_mem (l m : List Pr) : ∀ x ∈ joinL l m, x ∈ l ∨ x ∈ m := by
  induction l, m using joinL.induct with
  | case1 m => intro x h; rw [joinL] at h; exact .inr h
  | case2 p l => intro x h; rw [joinL_nil] at h; exact .inl h
  | case3 p l q m hlt ih =>
    intro x h
    rw [joinL_less hlt] at h
    rcases List.mem_cons.1 h with rfl | h
    · exact .inr (List.mem_cons_self ..)
    · exact (ih x h).imp id (List.mem_cons_of_mem _)
  | case4 p l q m hlt he ih =>
    intro x h
    rw [joinL_same he] at h
    rcases List.mem_cons.1 h with rfl | h
    · exact .inl (List.mem_cons_self ..)
    · exact (ih x h).imp (List.mem_cons_of_mem _) (List.mem_cons_of_mem _)
  | case5 p l q m hlt he ih =>
    intro x h
    rw [joinL_more (by omega)] at h
    rcases List.mem_cons.1 h with rfl | h
    · exact .inl (List.mem_cons_self ..)
    · exact (ih x h).imp (List.mem_cons_of_mem _) id
theorem joinL_len (l m : List Pr) : (joinL l m).length ≤ l.length + m.length := by
  induction l, m using joinL.induct with
  | case1 m => rw [joinL]; simp
  | case2 p l => rw [joinL_nil]; simp
  | case3 p l q m hlt ih => rw [joinL_less hlt]; simp only [List.length_cons] at ih ⊢; omega
  | case4 p l q m hlt he ih => rw [joinL_same he]; simp only [List.length_cons] at ih ⊢; omega
  | case5 p l q m hlt he ih => rw [joinL_more (by omega)]; simp only [List.length_cons] at ih ⊢; omega
theorem joinL_ok {l m : List Pr} (hl : PrOk l) (hm : PrOk m) : PrOk (joinL l m) := fun p hp => (joinL_mem l m p hp).elim (hl p) (hm p)
theorem joinL_ris (l m : List Pr) : Ris l → Ris m → Ris (joinL l m) := by
  unfold Ris
  induction l, m using joinL.induct with
  | case1 m => intro _ h; rw [joinL]; exact h
  | case2 p l => intro h _; rw [joinL_nil]; exact h
  | case3 p l q m hlt ih =>
    intro hl hm
    rw [joinL_less hlt]
    have hm' := List.pairwise_cons.1 hm
    have hl' := List.pairwise_cons.1 hl
    refine List.pairwise_cons.2 ⟨fun x hx => ?_, ih hl hm'.2⟩
    rcases joinL_mem _ _ x hx with h | h
    · rcases List.mem_cons.1 h with rfl | h
      · exact hlt
      · have := hl'.1 x h; omega
    · exact hm'.1 x h
  | case4 p l q m hlt he ih =>
    intro hl hm
    rw [joinL_same he]
    have hm' := List.pairwise_cons.1 hm
    have hl' := List.pairwise_cons.1 hl
    refine List.pairwise_cons.2 ⟨fun x hx => ?_, ih hl'.2 hm'.2⟩
    rcases joinL_mem _ _ x hx with h | h
    · exact hl'.1 x h
    · have := hm'.1 x h; omega
  | case5 p l q m hlt he ih =>
    intro hl hm
    rw [joinL_more (by omega)]
    have hm' := List.pairwise_cons.1 hm
    have hl' := List.pairwise_cons.1 hl
    refine List.pairwise_cons.2 ⟨fun x hx => ?_, ih hl'.2 hm⟩
    rcases joinL_mem _ _ x hx with h | h
    · exact hl'.1 x h
    · rcases List.mem_cons.1 h with rfl | h
      · omega
      · have := hm'.1 x h; omega
theorem joinL_look (l m : List Pr) (x : Nat) : Ris l → Ris m → lookP (joinL l m) x = (lookP l x).or (lookP m x) := by
  unfold Ris
  induction l, m using joinL.induct with
  | case1 m => intro _ _; rw [joinL]; rfl
  | case2 p l => intro _ _; rw [joinL_nil]; cases lookP (p :: l) x <;> rfl
  | case3 p l q m hlt ih =>
    intro hl hm
    have hm' := List.pairwise_cons.1 hm
    have hl' := List.pairwise_cons.1 hl
    rw [joinL_less hlt, lookP, ih hl hm'.2]
    by_cases e : q.1 = x
    · have hn : lookP (p :: l) x = none := (look_none _ x).2 fun y hy => by
        rcases List.mem_cons.1 hy with rfl | hy
        · omega
        · have := hl'.1 y hy; omega
      rw [if_pos e, hn, lookP, if_pos e]
      rfl
    · rw [if_neg e, lookP.eq_def (q :: m)]
      simp only [if_neg e]
  | case4 p l q m hlt he ih =>
    intro hl hm
    have hm' := List.pairwise_cons.1 hm
    have hl' := List.pairwise_cons.1 hl
    rw [joinL_same he, lookP, ih hl'.2 hm'.2, lookP]
    by_cases e : p.1 = x
    · simp only [if_pos e]
      rfl
    · simp only [if_neg e]
      rw [lookP, if_neg (by omega)]
  | case5 p l q m hlt he ih =>
    intro hl hm
    have hl' := List.pairwise_cons.1 hl
    rw [joinL_more (by omega), lookP, ih hl'.2 hm, lookP.eq_def (p :: l)]
    by_cases e : p.1 = x
    · simp only [if_pos e]
      rfl
    · simp only [if_neg e]
end Go.Proofs.Ytfkepoibgmljkaa

/- Steps of regions that draw: two that may come up; one pair appended. -/
namespace Go.Proofs.Ytfkepoibgmljkaa
open Go.RowKit Go.Shelf Go.Maps

attribute [local go_sem] Oper.semAt_some

section
variable {P : Program} {ops : Array Oper} {Q : Exit → Act → World → Prop} {md : Region.Mode} {S : Array Bool → World → Prop}
theorem wpAnyG_two {i j : Nat} {oi oj : Oper} {fuel : Nat} {listed : Array Bool} {a : Act} {w : World} (hr : Region.ready md ops listed = [i, j]) (hi : ops[i]? = some oi) (hj : ops[j]? = some oj)
    (h1 : ∀ K' : Act → World → Prop, Shut (∀ a w, S (listed.setIfInBounds i true) w → (S (listed.setIfInBounds i true) w → wpAnyG P md ops Q S fuel (listed.setIfInBounds i true) a w) → K' a w) → if Region.wanted oi (yielded ops a.tmps) = true then Oper.wp P oi a w K' Q else K' (a.put oi.dst undef) w)
    (h2 : ∀ K' : Act → World → Prop, Shut (∀ a w, S (listed.setIfInBounds j true) w → (S (listed.setIfInBounds j true) w → wpAnyG P md ops Q S fuel (listed.setIfInBounds j true) a w) → K' a w) → if Region.wanted oj (yielded ops a.tmps) = true then Oper.wp P oj a w K' Q else K' (a.put oj.dst undef) w) : wpAnyG P md ops Q S (fuel + 1) listed a w :=
  wpAnyG_ready hr (by simp) fun q hq => by
    simp at hq
    rcases hq with rfl | rfl
    · exact wpOp_step hi (fun K' hK => h1 K' (fun a w hS hW => hK a w ⟨hS, hW hS⟩))
    · exact wpOp_step hj (fun K' hK => h2 K' (fun a w hS hW => hK a w ⟨hS, hW hS⟩))
end
theorem vstep_appP (w : World) {ops : Array Oper} {o : Oper} {a : Act} {K : Act → World → Prop} {Q : Exit → Act → World → Prop} {E : Prop} (hgd : o.guard = none) (s x : Operand)
    (ho : o.op = .call { callee := .builtin .append, args := #[s, x], argTypes := #[25, 25] }) (base n : Nat) (hbase : base ≤ w.heap.size)
    (v : Value) (k : List Pr) (hs : a.eval s = v) (hown : w.ownsRow base 32 2 v n (prCells k)) (g : Nat) (p : Pr) (hx : a.eval x = .slice (some ⟨g, 0, none⟩) 1 1) (hb : Prs w (some ⟨g, 0, none⟩) 1 [p]) (hm : (n + 1) * 16 ≤ 140737488355328)
    (hK : ∀ ad' c' w', w'.ownsRow base 32 2 (.slice ad' (n + 1) c') (n + 1) (prCells (k ++ [p])) → Below base w w' → K (a.put o.dst (.slice ad' (n + 1) c')) w') :
    if Region.wanted o (yielded ops a.tmps) = true then Oper.wp Try.prog o a w K Q else E := by
  have hw : Region.wanted o (yielded ops a.tmps) = true := by simp [Region.wanted, hgd]
  rw [if_pos hw]
  obtain ⟨i0, hi, hz0, hz1, hz2⟩ := info_parts infoPr
  obtain ⟨b, off, e, hc⟩ := hb.2 (by omega)
  cases e
  obtain ⟨v', w', hr, h2, h3, h4, h5⟩ := run_append_own_at (P := Try.prog) w base 25 o.type 32 i0 _ 2 16 Try.underlying25 hi hz0 hz1 hz2 rfl (by omega) v n _ hown ⟨g, 0, none⟩ 1 1 (prCells [p]) (by rw [prCells_len]; rfl) (fun j u hj => by rw [Addr.add_lit]; exact prs_news [p] 0 hc j u hj) (prCells_one [p]) (by unfold maxLen; omega) hm hbase
  obtain ⟨ad', c', rfl, hc', _⟩ := row_shapeV h2
  unfold Oper.wp execOp
  simp only [ho, resolve, invoke, builtin, Sem.run_bind, Sem.run_pure, Result.andThen_ok, List.map_toArray, List.map_cons, List.map_nil, hs, hx, hr]
  exact hK ad' c' w' (by rw [prCells_append]; exact h2) ((Below.refl base w).grown h3 hbase (fun k hk => (hown.lt k hk).1))
end Go.Proofs.Ytfkepoibgmljkaa

/- Plain: pairs put into their place one by one. -/
namespace Go.Proofs.Ytfkepoibgmljkaa
open Go.RowKit

/-- where the first pair with that From stands; -1: nowhere -/
def idxF : List Pr → Nat → Nat → Int
  | [], _, _ => -1
  | p :: r, x, k => if p.1 = x then (k : Int) else idxF r x (k + 1)
theorem idxF_none : ∀ (l : List Pr) (x k : Nat), lookP l x = none → idxF l x k = -1
  | [], _, _, _ => rfl
  | p :: r, x, k, h => by
    rw [lookP] at h
    rw [idxF]
    split at h
    · cases h
    · rename_i hp
      rw [if_neg hp]
      exact idxF_none r x (k + 1) h
theorem idxF_some : ∀ (l : List Pr) (x k y : Nat), lookP l x = some y → ∃ j, idxF l x k = ((k + j : Nat) : Int) ∧ l[j]? = some (x, y)
  | [], _, _, _, h => by cases h
  | p :: r, x, k, y, h => by
    rw [lookP] at h
    rw [idxF]
    split at h
    · rename_i hp
      cases h
      rw [if_pos hp]
      exact ⟨0, rfl, by rw [← hp]; rfl⟩
    · rename_i hp
      rw [if_neg hp]
      obtain ⟨j, h1, h2⟩ := idxF_some r x (k + 1) y h
      exact ⟨j + 1, by rw [h1]; congr 1; omega, by simpa using h2⟩
/-- what Put answers -/
def PutR (l : List Pr) (p : Pr) (l' : List Pr) : Prop :=
  (lookP l p.1 ≠ none ∧ l' = l) ∨ (lookP l p.1 = none ∧ ∃ k, k ≤ l.length ∧ l' = l.take k ++ p :: l.drop k ∧ (∀ q ∈ l.take k, q.1 < p.1) ∧ ∀ q, l[k]? = some q → ¬ q.1 < p.1)
theorem mem_key {l : List Pr} {x : Nat} (h : lookP l x ≠ none) : x ∈ l.map (·.1) := by
  cases hy : lookP l x with
  | none => exact absurd hy h
  | some y => exact List.mem_map.2 ⟨(x, y), look_mem hy, rfl⟩
theorem key_none {l : List Pr} {x : Nat} : lookP l x = none ↔ x ∉ l.map (·.1) := by
  rw [look_none]
  constructor
  · intro h hx
    obtain ⟨p, hp, e⟩ := List.mem_map.1 hx
    exact h p hp e
  · intro h p hp e
    exact h (List.mem_map.2 ⟨p, hp, e⟩)
theorem putR_ris {l l' : List Pr} {p : Pr} (hl : Ris l) (h : PutR l p l') : Ris l' := by
  rcases h with ⟨_, rfl⟩ | ⟨hn, k, hk, rfl, h1, h2⟩
  · exact hl
  · unfold Ris at hl ⊢
    have hl2 := hl
    rw [← List.take_append_drop k l, List.pairwise_append] at hl2
    obtain ⟨a1, a2, a3⟩ := hl2
    have hd : ∀ q ∈ l.drop k, p.1 < q.1 := by
      intro q hq
      cases hdk : l.drop k with
      | nil => rw [hdk] at hq; cases hq
      | cons d r =>
        have e0 : l[k]? = some d := by
          have := congrArg (·[0]?) hdk
          simpa using this
        have h3 := h2 d e0
        have h4 : d.1 ≠ p.1 := (look_none l p.1).1 hn d (List.mem_of_getElem? e0)
        rw [hdk] at hq a2
        rcases List.mem_cons.1 hq with rfl | hq
        · omega
        · have := (List.pairwise_cons.1 a2).1 q hq
          omega
    rw [List.pairwise_append, List.pairwise_cons]
    refine ⟨a1, ⟨hd, a2⟩, fun a ha b hb => ?_⟩
    rcases List.mem_cons.1 hb with rfl | hb
    · exact h1 a ha
    · exact a3 a ha b hb
theorem putR_look {l l' : List Pr} {p : Pr} (h : PutR l p l') (x : Nat) : lookP l' x = (lookP l x).or (if p.1 = x then some p.2 else none) := by
  rcases h with ⟨hn, rfl⟩ | ⟨hn, k, hk, rfl, _, _⟩
  · by_cases e : p.1 = x
    · subst e
      cases hy : lookP l' p.1 with
      | none => exact absurd hy hn
      | some y => rfl
    · rw [if_neg e]
      cases lookP l' x <;> rfl
  · rw [look_app, lookP]
    have e0 : lookP l x = (lookP (l.take k) x).or (lookP (l.drop k) x) := by rw [← look_app, List.take_append_drop]
    rw [e0]
    by_cases e : p.1 = x
    · subst e
      rw [if_pos rfl]
      rw [e0] at hn
      rw [hn]
      cases h1 : lookP (l.take k) p.1 with
      | none => rw [if_pos rfl]
      | some y => rw [h1] at hn; cases hn
    · rw [if_neg e, if_neg e]
      cases lookP (l.take k) x <;> cases lookP (l.drop k) x <;> rfl
theorem putR_len {l l' : List Pr} {p : Pr} (h : PutR l p l') : l'.length ≤ l.length + 1 := by
  rcases h with ⟨_, rfl⟩ | ⟨_, k, hk, rfl, _⟩
  · omega
  · simp; omega
theorem putR_ok {l l' : List Pr} {p : Pr} (h : PutR l p l') (hl : PrOk l) (hp : PrOk [p]) : PrOk l' := by
  rcases h with ⟨_, rfl⟩ | ⟨_, k, hk, rfl, _⟩
  · exact hl
  · exact (hl.take k).app (PrOk.cons hp.head.1 hp.head.2 (hl.drop k))
/-- what Sorted answers -/
structure SortR (l l' : List Pr) : Prop where
  ris : Ris l'
  look : ∀ x, lookP l' x = lookP l x
  ok : PrOk l → PrOk l'
  len : l'.length ≤ l.length
  one : l'.length = l.length ↔ Once l
theorem SortR.start : SortR [] [] := ⟨List.Pairwise.nil, fun _ => rfl, fun h => h, Nat.le_refl _, ⟨fun _ => List.nodup_nil, fun _ => rfl⟩⟩
theorem SortR.step {l l' l'' : List Pr} {p : Pr} (h : SortR l l') (hp : PutR l' p l'') : SortR (l ++ [p]) l'' := by
  refine ⟨putR_ris h.ris hp, fun x => ?_, fun hok => ?_, ?_, ?_⟩
  · rw [putR_look hp, h.look, look_app]
    rfl
  · have h1 : PrOk l := fun q hq => hok q (List.mem_append_left _ hq)
    have h2 : PrOk [p] := fun q hq => hok q (List.mem_append_right _ hq)
    exact putR_ok hp (h.ok h1) h2
  · have := putR_len hp
    have := h.len
    simp; omega
  · have e : Once (l ++ [p]) ↔ Once l ∧ lookP l p.1 = none := by
      unfold Once
      rw [List.map_append, List.nodup_append, key_none]
      simp only [List.map_cons, List.map_nil, List.mem_singleton]
      constructor
      · rintro ⟨a1, _, a3⟩
        exact ⟨a1, fun hx => a3 _ hx _ rfl rfl⟩
      · rintro ⟨a1, a2⟩
        exact ⟨a1, by simp, fun a ha b hb e => a2 (by rw [← hb, ← e]; exact ha)⟩
    rw [e, ← h.one, ← h.look]
    have hl := h.len
    rw [List.length_append, List.length_singleton]
    rcases hp with ⟨hn, rfl⟩ | ⟨hn, k, hk, rfl, _⟩
    · exact ⟨fun h => by omega, fun ⟨_, h⟩ => absurd h hn⟩
    · rw [List.length_append, List.length_cons, List.length_take, List.length_drop]
      exact ⟨fun h => ⟨by omega, hn⟩, fun ⟨h, _⟩ => by omega⟩
/-- pairs that rise, found in l, are what Sorted answers -/
theorem SortR.uniq {l l' d : List Pr} (h : SortR l l') (hd : Ris d) (hl : ∀ x, lookP d x = lookP l x) : d = l' :=
  ris_ext d l' hd h.ris fun x => by rw [hl, h.look]
end Go.Proofs.Ytfkepoibgmljkaa
