import Derived.Test.YtggnglgehobglaaGreatDoorN33
/- Rules that New takes agree, and so does their one form. -/
namespace Go.Proofs.YtggnglgehobglaaGreatDoor

theorem restP_self (l : List UInt8) : restP l l = some [] := by
  unfold restP
  by_cases h : l = []
  · rw [if_pos h, h]
  · rw [if_neg h, if_pos rfl]
theorem agr_rules {rs : List Ru} {n : Nat} (hn : rs.length = n) (h : GoodU rs n) : AgrF rs := fun r hr s hs lr ls => by
  obtain ⟨i, hi, ei⟩ := List.getElem_of_mem hr
  obtain ⟨j, hj, ej⟩ := List.getElem_of_mem hs
  have key : ∀ (i j : Nat) (a b : Ru), i < n → j < i → rs[i]? = some a → rs[j]? = some b → letsK a.1 = true → letsK b.1 = true → folR a b = true ∧ folR b a = true := fun i j a b hi hji ha hb la lb => by
    have h1 := (besE_ok (h i a hi ha)).2.2 b (List.mem_of_getElem? (by rw [List.getElem?_take_of_lt hji]; exact hb))
    unfold agrR at h1
    rw [la, lb] at h1
    simpa using h1
  have gi : rs[i]? = some r := List.getElem?_eq_some_iff.2 ⟨hi, ei⟩
  have gj : rs[j]? = some s := List.getElem?_eq_some_iff.2 ⟨hj, ej⟩
  rcases Nat.lt_trichotomy i j with hij | rfl | hij
  · have := (key j i s r (by omega) hij gj gi ls lr).2
    unfold folR at this
    simpa using this
  · rw [gi] at gj
    cases gj
    rw [restP_self, restP_self]
  · have := (key i j r s (by omega) hij gi gj lr ls).1
    unfold folR at this
    simpa using this
theorem pln_from (r : Ru) : (plnR r).2.1 = r.2.1 := by
  unfold plnR
  split <;> rfl
theorem pln_to (r : Ru) : tgtR (plnR r) = tgtR r := by
  unfold plnR
  split
  · rename_i h
    unfold tgtR
    rw [if_pos rfl, if_neg (by rw [h.1]; decide), h.2]
  · rfl
theorem pln_lets (r : Ru) : letsK (plnR r).1 = letsK r.1 := by
  unfold plnR
  split
  · rename_i h
    rw [h.1]
    rfl
  · rfl
theorem form_mem {g : Tb} {ks : List (List UInt8)} {q : Ru} (hK : KeyL g ks) (h : q ∈ formT g ks) : ∃ x r, g x = some r ∧ q = plnR r := by
  unfold formT at h
  obtain ⟨x, hx, e⟩ := List.mem_filterMap.1 h
  obtain ⟨r, hr⟩ := Option.isSome_iff_exists.1 ((hK.mem x).1 hx)
  split at e
  · cases e
    exact ⟨x, r, hr, by rw [hr]; rfl⟩
  · cases e
/-- the one form's rules agree -/
theorem form_agr {rs : List Ru} {n : Nat} {ks : List (List UInt8)} (hn : rs.length = n) (h : GoodU rs n) (hK : KeyL (tabL rs) ks) : AgrF (formT (tabL rs) ks) := fun r hr s hs lr ls => by
  obtain ⟨x, r0, hr0, rfl⟩ := form_mem hK hr
  obtain ⟨y, s0, hs0, rfl⟩ := form_mem hK hs
  rw [pln_lets] at lr ls
  rw [pln_from, pln_from, pln_to, pln_to]
  exact agr_rules hn h r0 (tabL_mem rs x r0 hr0).1 s0 (tabL_mem rs y s0 hs0).1 lr ls
end Go.Proofs.YtggnglgehobglaaGreatDoor
