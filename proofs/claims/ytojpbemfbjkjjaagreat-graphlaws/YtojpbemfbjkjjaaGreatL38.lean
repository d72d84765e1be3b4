import Derived.Test.YtojpbemfbjkjjaaGreatL33
import Derived.Test.YtojpbemfbjkjjaaGreatL37
import Derived.Test.YtojpbemfbjkjjaaGreatL34
import Derived.Test.YtojpbemfbjkjjaaGreatL31
/- The nodes of a history and the objects of its store say the same of every id but the empty tree's; and so it is gone through in the same way. -/
namespace Go.Proofs.YtojpbemfbjkjjaaGreat

def lookT : List (Int × List Int × Bool) → Int → Option (Option (List Int))
  | [], _ => none
  | n :: r, i => if n.1 = i then some (if n.2.2 then none else some n.2.1) else lookT r i
theorem parsN_look : ∀ (ns : List Nd) (i : Int), parsN ns i = (lookT (ns.map Nd.told) i).bind id
  | [], i => rfl
  | x :: r, i => by
    simp only [parsN, List.map_cons, lookT, Nd.told]
    by_cases h : x.id = i
    · rw [if_pos h, if_pos h]; rfl
    · rw [if_neg h, if_neg h]; exact parsN_look r i
theorem errN_look : ∀ (ns : List Nd) (i : Int), errN ns i = if (lookT (ns.map Nd.told) i).isSome then 170 else 4
  | [], i => rfl
  | x :: r, i => by
    simp only [errN, List.map_cons, lookT, Nd.told]
    by_cases h : x.id = i
    · rw [if_pos h, if_pos h]; rfl
    · rw [if_neg h, if_neg h]; exact errN_look r i
theorem hasN_look : ∀ (l : List (Int × List Int × Bool)) (i : Int), hasN l i = (lookT l i).isSome
  | [], i => rfl
  | n :: r, i => by
    have ih := hasN_look r i
    unfold hasN at *
    simp only [List.any_cons, lookT]
    by_cases h : n.1 = i
    · simp [h]
    · rw [if_neg h, ← ih]; simp [h]
theorem lookT_snoc : ∀ (l : List (Int × List Int × Bool)) (n : Int × List Int × Bool) (i : Int), lookT l n.1 = none → lookT (l ++ [n]) i = if i = n.1 then some (if n.2.2 then none else some n.2.1) else lookT l i
  | [], n, i, _ => by
    simp only [List.nil_append, lookT]
    by_cases h : i = n.1
    · rw [if_pos h.symm, if_pos h]
    · rw [if_neg (fun e => h e.symm), if_neg h]
  | m :: r, n, i, h => by
    simp only [lookT] at h
    by_cases h1 : m.1 = n.1
    · rw [if_pos h1] at h; cases h
    · rw [if_neg h1] at h
      have ih := lookT_snoc r n i h
      simp only [List.cons_append, lookT]
      by_cases h2 : m.1 = i
      · rw [if_pos h2, if_neg (fun e => h1 (h2.trans e)), if_pos h2]
      · rw [if_neg h2, if_neg h2]; exact ih
theorem emptyI_99 : emptyI ≠ 99 ∧ emptyI ≠ 54321 := by
  have h : idOf (obB (.tree [])) ≠ 99 ∧ idOf (obB (.tree [])) ≠ 54321 := by decide +kernel
  exact h
/-- what holds of a history of the laws -/
structure NI (st : BS) : Prop where
  look : ∀ i, i ≠ emptyI → lookT st.nodes i = (findO st.os i).map parO
  has : findO st.os emptyI = some (.tree [])
  ids : ∀ i ∈ st.ids, i ≠ emptyI
  par : ∀ i ps, lookT st.nodes i = some (some ps) → emptyI ∉ ps
  len : st.nodes.length + 1 ≤ st.os.length
theorem backs_mem (ids back : List Int) : ∀ x ∈ backs ids back, x ∈ ids := by
  intro x hx
  unfold backs at hx
  split at hx
  · cases hx
  · rename_i h
    obtain ⟨y, _, rfl⟩ := List.mem_map.1 hx
    unfold backId
    have hl : backI ids.length ids.length y < ids.length := by unfold backI; omega
    rw [List.getElem?_eq_getElem hl, Option.getD_some]
    exact List.getElem_mem hl
theorem parsG_empty {ids : List Int} (h : ∀ i ∈ ids, i ≠ emptyI) (b : BornD) : emptyI ∉ parsG ids b := by
  intro hm
  unfold parsG at hm
  rcases List.mem_append.1 hm with hm | hm
  · exact h _ (backs_mem _ _ _ hm) rfl
  · split at hm
    · simp at hm; exact emptyI_99.2 hm
    · cases hm
theorem obG_empty (e0 : Int) (ids : List Int) (b : BornD) : obB (.tree []) ≠ obB (obG e0 ids b) := by
  intro h
  unfold obG at h
  have h1 := congrArg List.head? h
  split at h1
  · simp [obB, treeB] at h1
  · simp [obB, treeB, comBB, comB] at h1
theorem obG_par (e0 : Int) (ids : List Int) (b : BornD) : parO (obG e0 ids b) = if b.blob then none else some (parsG ids b) := by
  unfold obG
  split
  · rfl
  · rfl
theorem NI.step {st st' : BS} {b : BornD} (h : NI st) (hs : stepB emptyI st b = some st') : NI st' := by
  have hpe := parsG_empty h.ids b
  have hpo := obG_par emptyI st.ids b
  have hoe := obG_empty emptyI st.ids b
  unfold stepB at hs
  generalize obG emptyI st.ids b = o at *
  unfold putG at hs
  cases hf : findO st.os (oid o) with
  | none =>
    have hne : oid o ≠ emptyI := fun e => by rw [e, h.has] at hf; cases hf
    have hlk : lookT st.nodes (oid o) = none := by rw [h.look _ hne, hf]; rfl
    simp only [hf] at hs
    split at hs
    · cases hs
    · rw [hasN_look, hlk] at hs
      simp only [Option.isSome_none, Bool.false_eq_true, if_false, Option.some.injEq] at hs
      subst hs
      refine ⟨fun i hi => ?_, ?_, fun i hi => ?_, fun i ps hi => ?_, ?_⟩
      · show lookT (st.nodes ++ [(oid o, parsG st.ids b, b.blob)]) i = (findO (st.os ++ [o]) i).map parO
        rw [lookT_snoc _ _ _ hlk, findO_snoc _ _ _ hf]
        by_cases h1 : i = oid o
        · rw [if_pos h1, if_pos h1, Option.map_some, hpo]
        · rw [if_neg h1, if_neg h1]; exact h.look i hi
      · show findO (st.os ++ [o]) emptyI = _
        rw [findO_snoc _ _ _ hf, if_neg (fun e => hne e.symm)]; exact h.has
      · rcases List.mem_append.1 hi with hi | hi
        · exact h.ids i hi
        · simp at hi; subst hi; exact hne
      · have hi' : lookT (st.nodes ++ [(oid o, parsG st.ids b, b.blob)]) i = some (some ps) := hi
        rw [lookT_snoc _ _ _ hlk] at hi'
        by_cases h1 : i = oid o
        · rw [if_pos h1] at hi'
          simp only [Option.some.injEq] at hi'
          split at hi'
          · cases hi'
          · simp only [Option.some.injEq] at hi'
            subst hi'
            exact hpe
        · rw [if_neg h1] at hi'
          exact h.par i ps hi'
      · show (st.nodes ++ [_]).length + 1 ≤ (st.os ++ [o]).length
        rw [List.length_append, List.length_append]
        have := h.len
        simp only [List.length_cons, List.length_nil]
        omega
  | some p =>
    simp only [hf] at hs
    by_cases hb : obB p = obB o
    · rw [if_pos hb] at hs
      have hne : oid o ≠ emptyI := fun e => by
        rw [e, h.has] at hf
        cases hf
        exact hoe hb
      have hlk : (lookT st.nodes (oid o)).isSome = true := by rw [h.look _ hne, hf]; rfl
      simp only at hs
      split at hs
      · cases hs
      · rw [hasN_look, hlk] at hs
        simp only [if_true, Option.some.injEq] at hs
        subst hs
        exact ⟨h.look, h.has, fun i hi => by
          rcases List.mem_append.1 hi with hi | hi
          · exact h.ids i hi
          · simp at hi; subst hi; exact hne, h.par, h.len⟩
    · rw [if_neg hb] at hs
      simp at hs
theorem NI.go : ∀ (l : List BornD) (st st' : BS), NI st → bornL emptyI l st = some st' → NI st'
  | [], st, st', h, e => by simp only [bornL, Option.some.injEq] at e; subst e; exact h
  | b :: r, st, st', h, e => by
    simp only [bornL] at e
    cases hs : stepB emptyI st b with
    | none => rw [hs] at e; cases e
    | some s1 => rw [hs] at e; exact NI.go r s1 st' (h.step hs) e
theorem bornG_ni {l : List BornD} {st : BS} (h : bornG l = some st) : NI st := by
  refine NI.go _ _ _ ?_ h
  refine ⟨fun i hi => ?_, findO_one _, by simp, by simp [lookT], by simp⟩
  have : findO [.tree []] i = none := by
    unfold findO
    rw [List.find?_eq_none]
    intro x hx
    simp only [List.mem_singleton] at hx
    subst hx
    simp only [beq_iff_eq]
    exact fun e => hi e.symm
  show lookT [] i = (findO [.tree []] i).map parO
  rw [this]
  rfl
theorem visit_same {P Q : Int → Option (List Int)} {ge ke : Int → Int} {X : Int} (h1 : ∀ i, i ≠ X → P i = Q i) (h2 : ∀ i, i ≠ X → ge i = ke i) (h3 : ∀ i ps, i ≠ X → P i = some ps → X ∉ ps) :
    ∀ (f : Nat), (∀ x s, x ≠ X → visit P ge f x s = visit Q ke f x s) ∧ ∀ (l : List Int) (s : GS), X ∉ l → goL (visit P ge f) l s = goL (visit Q ke f) l s := by
  have hgo : ∀ f, (∀ x s, x ≠ X → visit P ge f x s = visit Q ke f x s) → ∀ (l : List Int) (s : GS), X ∉ l → goL (visit P ge f) l s = goL (visit Q ke f) l s := by
    intro f hv l
    induction l with
    | nil => intro s _; rfl
    | cons x r ih =>
      intro s hl
      simp only [goL]
      rw [hv x s (fun e => hl (by simp [e]))]
      cases visit Q ke f x s with
      | bad e => rfl
      | ok s' => exact ih s' (fun e => hl (by simp [e]))
  intro f
  have hv : ∀ x s, x ≠ X → visit P ge f x s = visit Q ke f x s := by
    induction f with
    | zero => intro x s _; rfl
    | succ f ih =>
      intro x s hx
      simp only [visit]
      rw [← h1 x hx, ← h2 x hx]
      cases hp : P x with
      | none => rfl
      | some ps =>
        simp only
        rw [hgo f ih ps _ (h3 x ps hx hp)]
  exact ⟨hv, hgo f hv⟩
/-- the order of the document is the program's -/
theorem ord_same {st : BS} (h : NI st) (ns : List Nd) (hn : ns.map Nd.told = st.nodes) (l : List Int) (hl : emptyI ∉ l) : goL (visit (parsN ns) (errN ns) (st.os.length + 2)) l GS.none = ordG st.os l GS.none := by
  refine (visit_same (X := emptyI) (fun i hi => ?_) (fun i hi => ?_) (fun i ps hi hp => ?_) _).2 l _ hl
  · rw [parsN_look, hn, h.look i hi]
    unfold parsO
    cases findO st.os i <;> rfl
  · rw [errN_look, hn, h.look i hi]
    unfold errO
    cases findO st.os i <;> rfl
  · rw [parsN_look, hn] at hp
    cases hq : lookT st.nodes i with
    | none => rw [hq] at hp; cases hp
    | some y =>
      rw [hq] at hp
      have : y = some ps := hp
      subst this
      exact h.par i ps hq
theorem heads_empty {ids : List Int} (h : ∀ i ∈ ids, i ≠ emptyI) (l : List Int) : emptyI ∉ headsG ids l := by
  intro hm
  unfold headsG at hm
  obtain ⟨y, _, hy⟩ := List.mem_map.1 hm
  unfold headId at hy
  split at hy
  · exact emptyI_99.1 hy.symm
  · rename_i h0
    have hl : y.toNat % ids.length < ids.length := Nat.mod_lt _ (by omega)
    rw [List.getElem?_eq_getElem hl, Option.getD_some] at hy
    exact h _ (List.getElem_mem hl) hy
end Go.Proofs.YtojpbemfbjkjjaaGreat

/- The history by which the laws of layer 11 see that the layer does anything: four commits. -/
namespace Go.Proofs.YtojpbemfbjkjjaaGreat
open Go.RowKit

theorem obG_dec {ids : List Int} (hr : ∀ i ∈ ids, i ≠ 0 ∧ 0 ≤ i ∧ i ≤ 18446744073709551615) (e0 : Int) (he : e0 ≠ 0 ∧ 0 ≤ e0 ∧ e0 ≤ 18446744073709551615) (b : BornD) (hd : -9223372036854775808 ≤ b.date ∧ b.date ≤ 9223372036854775807) : decG (obB (obG e0 ids b)) = some (obG e0 ids b) := by
  have h0 := obG_err hr e0 he.1 b
  have h := parsG_ok hr b
  have ok : ObOk (obG e0 ids b) := by
    unfold obG
    split
    · exact trivial
    · unfold comG
      refine ⟨?_, fun x hx => ?_, ?_, Nat.zero_le 64, ?_, Nat.zero_le 1024⟩
      · show 0 ≤ (if b.bare = true then 12345 else e0) ∧ _
        split <;> constructor <;> omega
      · have := h.1 x hx; omega
      · have := h.2; show (parsG ids b).length < _; omega
      · show -9223372036854775808 ≤ b.date ∧ b.date < _; omega
  have := decR_obB (obG e0 ids b) ok []
  rw [List.append_nil] at this
  unfold decG
  rw [this]
  generalize obG e0 ids b = o at *
  cases o <;> simp [h0]
/-- a store that has an object keeps it -/
theorem putG_find {os os' : List Ob} {o : Ob} (hp : Pure os) (hd : decG (obB o) = some o) (h : putG os o = some os') : findO os' (oid o) = some o ∧ (∀ i p, findO os i = some p → findO os' i = some p) ∧ Pure os' := by
  unfold putG at h
  cases hf : findO os (oid o) with
  | none =>
    rw [hf] at h
    simp only [Option.some.injEq] at h
    subst h
    refine ⟨by rw [findO_snoc os o _ hf, if_pos rfl], fun i p hi => ?_, hp.snoc hd hf⟩
    rw [findO_snoc os o _ hf]
    by_cases e : i = oid o
    · rw [e, hf] at hi; cases hi
    · rw [if_neg e]; exact hi
  | some p =>
    rw [hf] at h
    simp only at h
    split at h
    · rename_i hpo
      cases h
      have h1 := hp.1 p (findO_mem hf).1
      rw [hpo, hd] at h1
      cases h1
      exact ⟨hf, fun _ _ h => h, hp⟩
    · cases h
structure BP (st : BS) : Prop where
  pure : Pure st.os
  rng : ∀ i ∈ st.ids, i ≠ 0 ∧ 0 ≤ i ∧ i ≤ 18446744073709551615
theorem stepB_ok {e0 : Int} (he : e0 ≠ 0 ∧ 0 ≤ e0 ∧ e0 ≤ 18446744073709551615) {st st' : BS} {b : BornD} (hd : -9223372036854775808 ≤ b.date ∧ b.date ≤ 9223372036854775807) (hp : BP st) (h : stepB e0 st b = some st') :
    BP st' ∧ st'.ids = st.ids ++ [oid (obG e0 st.ids b)] ∧ findO st'.os (oid (obG e0 st.ids b)) = some (obG e0 st.ids b) ∧ ∀ i p, findO st.os i = some p → findO st'.os i = some p := by
  have hdec := obG_dec hp.rng e0 he b hd
  have hor := oid_rng (obG e0 st.ids b)
  unfold stepB at h
  generalize obG e0 st.ids b = o at *
  cases hpg : putG st.os o with
  | none => rw [hpg] at h; cases h
  | some os' =>
    rw [hpg] at h
    simp only at h
    split at h
    · cases h
    · cases h
      obtain ⟨h1, h2, h3⟩ := putG_find hp.pure hdec hpg
      refine ⟨⟨h3, fun i hi => ?_⟩, rfl, h1, h2⟩
      rcases List.mem_append.1 hi with hi | hi
      · exact hp.rng i hi
      · simp at hi; subst hi; exact hor
/-- the four commits -/
def wakeL : List BornD := [⟨[], 0, false, false, false⟩, ⟨[0], 0, false, false, false⟩, ⟨[1], 1, false, false, false⟩, ⟨[1, 0], 0, false, false, false⟩]
theorem wake_facts {st : BS} (h : bornG wakeL = some st) : ∃ a0 a1 a2 a3, st.ids = [a0, a1, a2, a3] ∧ (a0 ≠ a1 ∧ a0 ≠ a2 ∧ a0 ≠ a3 ∧ a1 ≠ a2 ∧ a1 ≠ a3 ∧ a2 ≠ a3) ∧ parsO st.os a0 = some [] ∧ parsO st.os a1 = some [a0] ∧ parsO st.os a2 = some [a0] ∧ parsO st.os a3 = some [a1, a2] ∧ 1 ≤ st.os.length := by
  have he : emptyI ≠ 0 ∧ 0 ≤ emptyI ∧ emptyI ≤ 18446744073709551615 := oid_rng (.tree [])
  unfold bornG at h
  have hp0 : BP ⟨[.tree []], [], [], []⟩ := ⟨⟨fun o ho => by
    simp at ho
    subst ho
    exact (gob_ok (empty_ob default).1 empty_err).2, by simp [oids]⟩, fun i hi => by cases hi⟩
  generalize emptyI = e0 at *
  have hl : wakeL.take 24 = wakeL := rfl
  rw [hl] at h
  unfold wakeL at h
  simp only [bornL] at h
  obtain ⟨s1, h1, h⟩ := Option.bind_eq_some_iff.1 h
  obtain ⟨s2, h2, h⟩ := Option.bind_eq_some_iff.1 h
  obtain ⟨s3, h3, h⟩ := Option.bind_eq_some_iff.1 h
  obtain ⟨s4, h4, h⟩ := Option.bind_eq_some_iff.1 h
  cases h
  obtain ⟨p1, i1, f1, m1⟩ := stepB_ok he (by simp) hp0 h1
  obtain ⟨p2, i2, f2, m2⟩ := stepB_ok he (by simp) p1 h2
  obtain ⟨p3, i3, f3, m3⟩ := stepB_ok he (by simp) p2 h3
  obtain ⟨p4, i4, f4, m4⟩ := stepB_ok he (by simp) p3 h4
  have o0 : obG e0 [] ⟨[], 0, false, false, false⟩ = .com (e0, [], ⟨#[]⟩, 0, ⟨#[]⟩) := rfl
  simp only [o0] at i1 f1
  obtain ⟨a0, ha0⟩ : ∃ a0, a0 = oid (.com (e0, [], ⟨#[]⟩, 0, ⟨#[]⟩)) := ⟨_, rfl⟩
  rw [← ha0] at i1 f1
  simp only [List.nil_append] at i1
  rw [i1] at i2 f2
  have o1 : obG e0 [a0] ⟨[0], 0, false, false, false⟩ = .com (e0, [a0], ⟨#[]⟩, 0, ⟨#[]⟩) := rfl
  rw [o1] at i2 f2
  obtain ⟨a1, ha1⟩ : ∃ a1, a1 = oid (.com (e0, [a0], ⟨#[]⟩, 0, ⟨#[]⟩)) := ⟨_, rfl⟩
  rw [← ha1] at i2 f2
  simp only [List.cons_append, List.nil_append] at i2
  rw [i2] at i3 f3
  have o2 : obG e0 [a0, a1] ⟨[1], 1, false, false, false⟩ = .com (e0, [a0], ⟨#[]⟩, 1, ⟨#[]⟩) := rfl
  rw [o2] at i3 f3
  obtain ⟨a2, ha2⟩ : ∃ a2, a2 = oid (.com (e0, [a0], ⟨#[]⟩, 1, ⟨#[]⟩)) := ⟨_, rfl⟩
  rw [← ha2] at i3 f3
  simp only [List.cons_append, List.nil_append] at i3
  rw [i3] at i4 f4
  have o3 : obG e0 [a0, a1, a2] ⟨[1, 0], 0, false, false, false⟩ = .com (e0, [a1, a2], ⟨#[]⟩, 0, ⟨#[]⟩) := rfl
  rw [o3] at i4 f4
  obtain ⟨a3, ha3⟩ : ∃ a3, a3 = oid (.com (e0, [a1, a2], ⟨#[]⟩, 0, ⟨#[]⟩)) := ⟨_, rfl⟩
  rw [← ha3] at i4 f4
  simp only [List.cons_append, List.nil_append] at i4
  have g0 := m4 _ _ (m3 _ _ (m2 _ _ f1))
  have g1 := m4 _ _ (m3 _ _ f2)
  have g2 := m4 _ _ f3
  clear ha0 ha1 ha2 ha3
  refine ⟨a0, a1, a2, a3, i4, ⟨fun e => ?_, fun e => ?_, fun e => ?_, fun e => ?_, fun e => ?_, fun e => ?_⟩, by simp [parsO, g0, parO], by simp [parsO, g1, parO], by simp [parsO, g2, parO], by simp [parsO, f4, parO], ?_⟩
  · rw [e, g1] at g0; simp at g0
  · rw [e, g2] at g0; simp at g0
  · rw [e, f4] at g0; simp at g0
  · rw [e, g2] at g1; simp at g1
  · rw [e, f4] at g1; simp at g1
  · rw [e, f4] at g2; simp at g2
  · cases hs : st.os with
    | nil => rw [hs] at g0; simp [findO] at g0
    | cons _ _ => simp
theorem wake_order {os : List Ob} {a0 a1 a2 a3 : Int} (hd : a0 ≠ a1 ∧ a0 ≠ a2 ∧ a0 ≠ a3 ∧ a1 ≠ a2 ∧ a1 ≠ a3 ∧ a2 ≠ a3) (p0 : parsO os a0 = some []) (p1 : parsO os a1 = some [a0]) (p2 : parsO os a2 = some [a0]) (p3 : parsO os a3 = some [a1, a2]) (hl : 1 ≤ os.length) :
    (∃ gs, ordG os [a3] GS.none = .ok gs ∧ gs.ord = [a0, a1, a2, a3]) ∧ (∃ gs, ordG os [a0, a3] GS.none = .ok gs ∧ gs.ord = [a0, a1, a2, a3]) ∧ linesG os [a0, a1, a2, a3] a0 a3 = 2 := by
  obtain ⟨f, hf⟩ : ∃ f, os.length = f + 1 := ⟨os.length - 1, by omega⟩
  obtain ⟨d1, d2, d3, d4, d5, d6⟩ := hd
  have e1 := Ne.symm d1
  have e2 := Ne.symm d2
  have e3 := Ne.symm d3
  have e4 := Ne.symm d4
  have e5 := Ne.symm d5
  have e6 := Ne.symm d6
  refine ⟨?_, ?_, ?_⟩
  · unfold ordG
    rw [hf]
    simp [goL, visit, GS.none, GS.opn, GS.plc, setG, *]
  · unfold ordG
    rw [hf]
    simp [goL, visit, GS.none, GS.opn, GS.plc, setG, *]
  · simp [linesG, pairsO, waysL, sumW, setG, *]
end Go.Proofs.YtojpbemfbjkjjaaGreat

/- The calls of package graph where there is no store; the law's same. -/
namespace Go.Proofs.YtojpbemfbjkjjaaGreat
open Go.RowKit Go.Maps

attribute [local go_sem] Oper.semAt_some

theorem between_nil (w : World) (v u : Value) : Calls Tryz.prog 17 #[.pointer none, v, u] w fun e w' => e = .returned (.tuple #[.slice none 0 0, .int .i64 1]) ∧ w' = w := by
  have hr := gread_nil w v
  go_enter Tryz.func17, Tryz.ntmps17
  go_wp2_with (go_at_call 30; refine hr.mono ?_; clear hr; rintro e w1 ⟨rfl, h1⟩; subst h1)
  go_ret2
  exact ⟨rfl, rfl⟩
theorem roots_nil (w : World) (v : Value) : Calls Tryz.prog 18 #[.pointer none, v] w fun e w' => e = .returned (.tuple #[.slice none 0 0, .int .i64 1]) ∧ w' = w := by
  have hr := gread_nil w v
  go_enter Tryz.func18, Tryz.ntmps18
  go_wp2_with (go_at_call 30; refine hr.mono ?_; clear hr; rintro e w1 ⟨rfl, h1⟩; subst h1)
  go_ret2
  exact ⟨rfl, rfl⟩
theorem depth_nil (w : World) (c : Int) : Calls Tryz.prog 13 #[.pointer none, .int .u64 c] w fun e w' => e = .returned (.tuple #[.int .i64 0, .int .i64 1]) ∧ Below w.heap.size w w' := by
  have hr := fun W v => gread_nil W v
  go_enter Tryz.func13, Tryz.ntmps13
  go_wp2_with (go_at_call 30; refine (hr _ _).mono ?_; clear hr; rintro e w1 ⟨rfl, h1⟩; subst h1)
  go_ret2
  exact ⟨rfl, (Below.refl _ _).alloc (Nat.le_refl _) _⟩
/-- the law's same -/
theorem lsame_drop (l m : List Int) (k : Nat) (x y : Int) (hx : l[k]? = some x) (hy : m[k]? = some y) : (l.drop k == m.drop k) = (x == y && (l.drop (k + 1) == m.drop (k + 1))) := by
  have h1 := (List.getElem?_eq_some_iff.1 hx)
  have h2 := (List.getElem?_eq_some_iff.1 hy)
  obtain ⟨a1, a2⟩ := h1
  obtain ⟨b1, b2⟩ := h2
  rw [List.drop_eq_getElem_cons a1, List.drop_eq_getElem_cons b1, a2, b2]
  rfl
set_option maxRecDepth 20000 in
theorem gsame_any (w : World) (a b : Option Addr) (n m c d : Nat) (l k : List Int) (ha : Ids w a n l) (hb : Ids w b m k) (hn : n ≤ 1000000000000) (hm : m ≤ 1000000000000) :
    Calls Tryz.prog 20 #[.slice a n c, .slice b m d] w fun e w' => e = .returned (.bool (l == k)) ∧ Below w.heap.size w w' := by
  have hll := ha.1
  have hlk := hb.1
  by_cases hnm : n = m
  · subst hnm
    obtain ⟨E, hE⟩ : ∃ E, E = (l == k) := ⟨_, rfl⟩
    rw [← hE]
    go_enter Tryz.func20, Tryz.ntmps20
    go_wp2
    go_loopw [13] (fun v wr => ∃ j : Nat, j ≤ n ∧ v = .int .i64 (j : Int) ∧ Hid (E = (l.drop j == k.drop j) ∧ Below w.heap.size w wr)) (fun v _ => n - (intOf v).toNat)
    case atStart => exact ⟨0, Nat.zero_le _, rfl, hE, Below.refl _ _⟩
    case round =>
      clear hE
      obtain ⟨j, hj, rfl, H⟩ := hrel
      by_cases hlt : j < n
      · obtain ⟨x, hx⟩ : ∃ x, l[j]? = some x := ⟨_, List.getElem?_eq_getElem (by omega)⟩
        obtain ⟨y, hy⟩ : ∃ y, k[j]? = some y := ⟨_, List.getElem?_eq_getElem (by omega)⟩
        have hst := H.out.1.trans (lsame_drop l k j x y hx hy)
        have hBw := H.out.2
        have hax := ha.below hBw
        have hbx := hb.below hBw
        obtain ⟨b1, o1, rfl, hc1⟩ := hax.2 (by omega)
        obtain ⟨b2, o2, rfl, hc2⟩ := hbx.2 (by omega)
        have q1 := hc1 j x hx
        have q2 := hc2 j y hy
        have i2 : (j : Int) < (n : Int) := by omega
        have i3 : ¬ n ≤ j := by omega
        have HB : Hid (∀ q, Below w.heap.size w (wr.drewN q)) := fun q => hBw.trans ⟨rfl, rfl, rfl, Nat.le_refl _, fun _ _ => rfl⟩
        have p1 : ∀ q, (wr.drewN q).cell? ⟨b1, o1 + j, none⟩ = some (.int .u64 x) := fun _ => q1
        have p2 : ∀ q, (wr.drewN q).cell? ⟨b2, o2 + j, none⟩ = some (.int .u64 y) := fun _ => q2
        clear hc1 hc2 hx hy H hBw hax hbx
        by_cases hxy : x = y
        · subst hxy
          have HE : Hid (E = (l.drop (j + 1) == k.drop (j + 1))) := by rw [hst, beq_self_eq_true, Bool.true_and]; exact rfl
          clear hst
          go_wp2
          go_quiet (fail)
          go_wp2
          go_roundw
          case rel => exact ⟨j + 1, by omega, by simp, HE.out, HB.out _⟩
          case measure => simp [intOf]; omega
        · have hxy' : (x == y) = false := beq_eq_false_iff_ne.2 hxy
          have hE0 : E = false := by rw [hst, hxy']; rfl
          clear hst
          subst hE0
          go_wp2
          go_quiet (fail)
          go_wp2
          go_ret
          exact ⟨rfl, HB.out _⟩
      · obtain rfl : j = n := by omega
        have i2 : ¬ (j : Int) < (j : Int) := by omega
        have e0 : E = true := by rw [H.out.1, List.drop_of_length_le (by omega), List.drop_of_length_le (by omega)]; rfl
        have HB := H.out.2
        clear H
        subst e0
        go_wp2
        go_ret
        exact ⟨rfl, HB⟩
  · have hne : (l == k) = false := beq_eq_false_iff_ne.2 (fun e => hnm (by rw [← hll, ← hlk, e]))
    have i1 : ¬ (n : Int) = (m : Int) := by omega
    rw [hne]
    clear hne
    go_enter Tryz.func20, Tryz.ntmps20
    go_wp2
    go_ret
    exact ⟨rfl, Below.refl _ _⟩
end Go.Proofs.YtojpbemfbjkjjaaGreat
