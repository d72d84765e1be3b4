import Derived.Test.YtcbmofapnjdmgaaDoorDD17
/- The reference disk's files against what a disk holds: plain facts. -/
namespace Go.Proofs.YtcbmofapnjdmgaaDoor
open Go.RowKit Go.Maps

/-- a file's name, as bytes -/
def It.k (i : It) : List UInt8 := i.name.data.toList
theorem It.k_eq {i : It} {s : ByteArray} : i.k = s.data.toList ↔ i.name = s := ⟨fun h => bytes_ext h, fun h => by unfold It.k; rw [h]⟩
theorem It.k_inj {i j : It} : i.k = j.k ↔ i.name = j.name := ⟨fun h => bytes_ext h, fun h => by unfold It.k; rw [h]⟩
/-- the file of a name -/
def seek (is : List It) (x : List UInt8) : Option It := is.find? (fun i => decide (i.k = x))

structure Match (S : DG) (is : List It) (left : Int) : Prop where
  f : ∀ x, S.f x = (seek is x).map (·.bs)
  n : S.n = is.length
  nd : is.Pairwise (fun a b => a.name ≠ b.name)
  left : (S.cut = false ∧ left = -1) ∨ (S.cut = true ∧ left = (S.left : Int))

theorem toList_beq (s t : ByteArray) : (s.toList == t.toList) = decide (s = t) := by
  rw [ByteArray.toList_eq, ByteArray.toList_eq, Bool.eq_iff_iff, beq_iff_eq, decide_eq_true_eq]
  exact ⟨bytes_ext, fun h => by rw [h]⟩
theorem seek_none {is : List It} {x : List UInt8} : seek is x = none ↔ ∀ i ∈ is, i.k ≠ x := by
  unfold seek
  rw [List.find?_eq_none]
  simp
theorem seek_mem {is : List It} {x : List UInt8} {i : It} (h : seek is x = some i) : i ∈ is ∧ i.k = x := ⟨List.mem_of_find?_eq_some h, by simpa using List.find?_some h⟩
theorem seek_cons (a : It) (r : List It) (x : List UInt8) : seek (a :: r) x = if a.k = x then some a else seek r x := by
  unfold seek
  by_cases h : a.k = x
  · rw [if_pos h, List.find?_cons_of_pos (by simpa using h)]
  · rw [if_neg h, List.find?_cons_of_neg (by simpa using h)]
theorem seek_append (l r : List It) (x : List UInt8) : seek (l ++ r) x = (seek l x).or (seek r x) := by unfold seek; rw [List.find?_append]
theorem sans_cons (a : It) (r : List It) (s : ByteArray) : sans (a :: r) s = if a.name = s then sans r s else a :: sans r s := by
  unfold sans
  rw [List.filter_cons, toList_beq]
  by_cases h : a.name = s <;> simp [h]
theorem seek_sans (is : List It) (s : ByteArray) (x : List UInt8) : seek (sans is s) x = if x = s.data.toList then none else seek is x := by
  induction is with
  | nil => simp [sans, seek]
  | cons a r ih =>
    rw [sans_cons, seek_cons]
    by_cases h : a.name = s
    · rw [if_pos h, ih]
      by_cases e : x = s.data.toList
      · rw [if_pos e, if_pos e]
      · rw [if_neg e, if_neg e, if_neg (fun h' => e (by rw [← h', It.k_eq.2 h]))]
    · rw [if_neg h, seek_cons, ih]
      by_cases ea : a.k = x
      · rw [if_pos ea, if_pos ea, if_neg (fun e => h (It.k_eq.1 (by rw [ea, e])))]
      · rw [if_neg ea, if_neg ea]

theorem ix_cases (is : List It) (s : ByteArray) : ∀ (m k : Nat), k + m = is.length → (ixTo is s m = -1 ∧ ∀ (j : Nat) (i : It), k ≤ j → is[j]? = some i → i.name ≠ s) ∨ (∃ (j : Nat) (i : It), ixTo is s m = (j : Int) ∧ is[j]? = some i ∧ i.name = s) := by
  intro m
  induction m with
  | zero =>
    intro k hk
    refine .inl ⟨rfl, fun j i hj hi => ?_⟩
    have := (List.getElem?_eq_some_iff.1 hi).1
    omega
  | succ m ih =>
    intro k hk
    obtain ⟨i, hi⟩ : ∃ i, is[k]? = some i := ⟨is[k]'(by omega), by simp⟩
    have hst := ix_step is s k i hi
    rw [show is.length - k = m + 1 by omega, show is.length - (k + 1) = m by omega] at hst
    rw [hst]
    by_cases hn : i.name = s
    · rw [if_pos hn]
      exact .inr ⟨k, i, rfl, hi, hn⟩
    · rw [if_neg hn]
      rcases ih (k + 1) (by omega) with ⟨h1, h2⟩ | h
      · refine .inl ⟨h1, fun j i' hj hi' => ?_⟩
        by_cases e : j = k
        · subst e
          rw [hi] at hi'
          cases hi'
          exact hn
        · exact h2 j i' (by omega) hi'
      · exact .inr h

theorem uniq {is : List It} (nd : is.Pairwise (fun a b => a.name ≠ b.name)) {a b : It} (ha : a ∈ is) (hb : b ∈ is) (h : a.name = b.name) : a = b := by
  induction is with
  | nil => simp at ha
  | cons c r ih =>
    obtain ⟨h1, h2⟩ := List.pairwise_cons.1 nd
    rcases List.mem_cons.1 ha with rfl | ha'
    · rcases List.mem_cons.1 hb with rfl | hb'
      · rfl
      · exact absurd h (h1 b hb')
    · rcases List.mem_cons.1 hb with rfl | hb'
      · exact absurd h.symm (h1 a ha')
      · exact ih h2 ha' hb'

theorem Match.ix_none {S : DG} {is : List It} {left : Int} (h : Match S is left) (s : ByteArray) (hf : S.f s.data.toList = none) : ix is s = -1 := by
  rcases ix_cases is s is.length 0 (by omega) with ⟨h1, _⟩ | ⟨j, i, _, hi, rfl⟩
  · exact h1
  · rw [h.f] at hf
    exact absurd rfl (seek_none.1 (Option.map_eq_none_iff.1 hf) i (List.mem_of_getElem? hi))
theorem Match.ix_some {S : DG} {is : List It} {left : Int} (h : Match S is left) (s : ByteArray) (bs : List UInt8) (hf : S.f s.data.toList = some bs) : ∃ (k : Nat) (i : It), ix is s = (k : Int) ∧ is[k]? = some i ∧ i.name = s ∧ i.bs = bs := by
  rw [h.f] at hf
  obtain ⟨i', hi', rfl⟩ := Option.map_eq_some_iff.1 hf
  have hm' := (seek_mem hi').1
  have hn' : i'.name = s := It.k_eq.1 (seek_mem hi').2
  rcases ix_cases is s is.length 0 (by omega) with ⟨_, h2⟩ | ⟨j, i, h1, hi, hn⟩
  · obtain ⟨j, hj⟩ := List.getElem?_of_mem hm'
    exact absurd hn' (h2 j i' (Nat.zero_le _) hj)
  · refine ⟨j, i, h1, hi, hn, ?_⟩
    rw [uniq h.nd (List.mem_of_getElem? hi) hm' (by rw [hn, hn'])]

theorem sans_length {is : List It} (nd : is.Pairwise (fun a b => a.name ≠ b.name)) (s : ByteArray) : (sans is s).length + (if (seek is s.data.toList).isSome = true then 1 else 0) = is.length := by
  induction is with
  | nil => rfl
  | cons a r ih =>
    obtain ⟨h1, h2⟩ := List.pairwise_cons.1 nd
    have ih := ih h2
    rw [sans_cons, seek_cons]
    by_cases e : a.name = s
    · have hr : seek r s.data.toList = none := seek_none.2 fun x hx hk => h1 x hx (by rw [e, It.k_eq.1 hk])
      rw [hr] at ih
      rw [if_pos e, if_pos (It.k_eq.2 e)]
      simpa using ih
    · rw [if_neg e, if_neg (fun h' => e (It.k_eq.1 h'))]
      simp only [List.length_cons]
      omega

theorem Match.rem {S : DG} {is : List It} {left : Int} (h : Match S is left) (s : ByteArray) : Match (S.rem s.data.toList) (sans is s) left := by
  refine ⟨fun x => ?_, ?_, h.nd.filter _, h.left⟩
  · rw [seek_sans]
    by_cases e : x = s.data.toList
    · rw [if_pos e]; simp [DG.rem, e]
    · rw [if_neg e]
      simp only [DG.rem, if_neg e]
      exact h.f x
  · have := sans_length h.nd s
    rw [show (seek is s.data.toList).isSome = (S.f s.data.toList).isSome by rw [h.f]; simp] at this
    show (if (S.f s.data.toList).isSome = true then S.n - 1 else S.n) = _
    have hn := h.n
    split
    · rename_i h1; rw [if_pos h1] at this; omega
    · rename_i h1; rw [if_neg h1] at this; omega

theorem Match.push {S : DG} {is : List It} {left : Int} (h : Match S is left) (i : It) (hf : S.f i.k = none) : Match (S.set i.k i.bs) (is ++ [i]) left := by
  have hno : ∀ a ∈ is, a.name ≠ i.name := by
    intro a ha e
    rw [h.f] at hf
    exact seek_none.1 (Option.map_eq_none_iff.1 hf) a ha (It.k_inj.2 e)
  refine ⟨fun x => ?_, ?_, ?_, h.left⟩
  · rw [seek_append, seek_cons]
    by_cases e : x = i.k
    · have : seek is x = none := seek_none.2 fun a ha hk => hno a ha (It.k_inj.1 (by rw [hk, e]))
      rw [this, if_pos e.symm]
      simp [DG.set, e]
    · rw [if_neg (fun h' => e h'.symm)]
      simp only [DG.set, if_neg e]
      rw [h.f x]
      simp [seek]
  · show (if (S.f i.k).isSome = true then S.n else S.n + 1) = _
    rw [hf]
    simp [h.n]
  · rw [List.pairwise_append]
    exact ⟨h.nd, by simp, fun a ha b hb => by simp at hb; subst hb; exact hno a ha⟩

theorem seek_set : ∀ (is : List It) (k : Nat) (i i' : It) (x : List UInt8), is.Pairwise (fun a b => a.name ≠ b.name) → is[k]? = some i → i'.name = i.name → seek (is.set k i') x = if x = i.k then some i' else seek is x := by
  intro is
  induction is with
  | nil => intro k i i' x _ h; simp at h
  | cons a r ih =>
    intro k i i' x nd h hn
    obtain ⟨h1, h2⟩ := List.pairwise_cons.1 nd
    have hk' : i'.k = i.k := It.k_inj.2 hn
    cases k with
    | zero =>
      simp only [List.getElem?_cons_zero, Option.some.injEq] at h
      subst h
      rw [List.set_cons_zero, seek_cons, seek_cons, hk']
      by_cases e : x = a.k
      · rw [if_pos e.symm, if_pos e]
      · rw [if_neg (fun h' => e h'.symm), if_neg e, if_neg (fun h' => e h'.symm)]
    | succ k =>
      have hr : r[k]? = some i := by simpa using h
      have hai := h1 i (List.mem_of_getElem? hr)
      rw [List.set_cons_succ, seek_cons, seek_cons]
      by_cases ea : a.k = x
      · rw [if_pos ea, if_pos ea, if_neg (fun e => hai (It.k_inj.1 (by rw [ea, e])))]
      · rw [if_neg ea, if_neg ea]
        exact ih k i i' x h2 hr hn

theorem pairwise_set {is : List It} {R : It → It → Prop} (hs : ∀ a b, R a b → R b a) (h : is.Pairwise R) (k : Nat) (i' : It) (hR : ∀ (j : Nat) (b : It), j ≠ k → is[j]? = some b → R i' b) : (is.set k i').Pairwise R := by
  rw [List.pairwise_iff_getElem] at h ⊢
  intro a b ha hb hab
  simp only [List.length_set] at ha hb
  rw [List.getElem_set, List.getElem_set]
  split
  · split
    · omega
    · exact hR b _ (by omega) (by simp)
  · split
    · exact hs _ _ (hR a _ (by omega) (by simp))
    · exact h a b ha hb hab

theorem other_name {is : List It} (nd : is.Pairwise (fun a b => a.name ≠ b.name)) {j k : Nat} {i b : It} (hj : j ≠ k) (hk : is[k]? = some i) (hb : is[j]? = some b) : i.name ≠ b.name := by
  have nd := List.pairwise_iff_getElem.1 nd
  obtain ⟨hj1, hj2⟩ := List.getElem?_eq_some_iff.1 hb
  obtain ⟨hk1, hk2⟩ := List.getElem?_eq_some_iff.1 hk
  rcases Nat.lt_or_gt_of_ne hj with hlt | hgt
  · have := nd j k hj1 hk1 hlt
    rw [hj2, hk2] at this
    exact this.symm
  · have := nd k j hk1 hj1 hgt
    rw [hj2, hk2] at this
    exact this

theorem Match.put {S : DG} {is : List It} {left : Int} (h : Match S is left) (k : Nat) (i i' : It) (hk : is[k]? = some i) (hn : i'.name = i.name) : Match (S.set i.k i'.bs) (is.set k i') left := by
  have hmem := List.mem_of_getElem? hk
  have hsome : (S.f i.k).isSome = true := by
    rw [h.f]
    cases hs : seek is i.k with
    | none => exact absurd rfl (seek_none.1 hs i hmem)
    | some _ => rfl
  refine ⟨fun x => ?_, ?_, ?_, h.left⟩
  · rw [seek_set is k i i' x h.nd hk hn]
    by_cases e : x = i.k
    · rw [if_pos e]; simp [DG.set, e]
    · rw [if_neg e]; simp only [DG.set, if_neg e]; exact h.f x
  · show (if (S.f i.k).isSome = true then S.n else S.n + 1) = _
    rw [if_pos hsome, List.length_set]
    exact h.n
  · refine pairwise_set (fun a b h => Ne.symm h) h.nd k i' (fun j b hj hb => ?_)
    rw [hn]
    exact other_name h.nd hj hk hb

end Go.Proofs.YtcbmofapnjdmgaaDoor
