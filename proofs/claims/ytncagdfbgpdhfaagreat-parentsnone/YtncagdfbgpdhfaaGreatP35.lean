import Derived.Test.YtncagdfbgpdhfaaGreatP34
/- The objects that born puts in. -/
namespace Go.Proofs.YtncagdfbgpdhfaaGreat
open Go.RowKit Go.Maps

theorem backId_mem {ids : List Int} (h : 0 < ids.length) (x : Int) : backId ids x ∈ ids := by
  unfold backId
  have hl : backI ids.length ids.length x < ids.length := by unfold backI; omega
  rw [List.getElem?_eq_getElem hl, Option.getD_some]
  exact List.getElem_mem hl
theorem parsG_ok {ids : List Int} (hr : ∀ i ∈ ids, i ≠ 0 ∧ 0 ≤ i ∧ i ≤ 18446744073709551615) (b : BornD) : (∀ x ∈ parsG ids b, x ≠ 0 ∧ 0 ≤ x ∧ x ≤ 18446744073709551615) ∧ (parsG ids b).length ≤ 8 := by
  have hb : (∀ x ∈ backs ids b.back, x ≠ 0 ∧ 0 ≤ x ∧ x ≤ 18446744073709551615) ∧ (backs ids b.back).length ≤ 7 := by
    unfold backs
    split
    · exact ⟨by simp, by simp⟩
    · rename_i h
      refine ⟨fun x hx => ?_, by rw [List.length_map, List.length_take]; omega⟩
      obtain ⟨y, _, rfl⟩ := List.mem_map.1 hx
      exact hr _ (backId_mem (by omega) y)
  unfold parsG
  refine ⟨fun x hx => ?_, ?_⟩
  · rcases List.mem_append.1 hx with h | h
    · exact hb.1 x h
    · split at h
      · simp at h; subst h; omega
      · cases h
  · rw [List.length_append]
    have := hb.2
    split <;> simp <;> omega
theorem parL_zero : ∀ (l : List Int), (∀ x ∈ l, x ≠ 0) → parL l = 0
  | [], _ => rfl
  | x :: r, h => by
    simp only [parL]
    rw [if_neg (h x (by simp))]
    exact parL_zero r fun y hy => h y (by simp [hy])
theorem comG_err {t : Int} {ps : List Int} (ht : t ≠ 0) (hp : ∀ x ∈ ps, x ≠ 0) (hl : ps.length ≤ 8) (d : Int) : obErr (.com (t, ps, ⟨#[]⟩, d, ⟨#[]⟩)) = 0 := by
  show comErr t ps ⟨#[]⟩ ⟨#[]⟩ = 0
  have h1 : parErr ps = 0 := by unfold parErr; rw [if_neg (by omega)]; exact parL_zero ps hp
  have h2 : txtErr ⟨#[]⟩ 64 = 0 := by decide
  have h3 : txtErr ⟨#[]⟩ 1024 = 0 := by decide
  unfold comErr
  rw [if_neg ht, h1, h2, h3]
  simp
theorem obG_err {ids : List Int} (hr : ∀ i ∈ ids, i ≠ 0 ∧ 0 ≤ i ∧ i ≤ 18446744073709551615) (e0 : Int) (he : e0 ≠ 0) (b : BornD) : obErr (obG e0 ids b) = 0 := by
  have h := parsG_ok hr b
  unfold obG
  split
  · exact (blob_pure [byteG b.date] (by simp)).1
  · unfold comG
    refine comG_err ?_ (fun x hx => (h.1 x hx).1) h.2 _
    split
    · omega
    · exact he
theorem com_obs {W : World} {B : Nat} {pa : Option Addr} {pc : Nat} {ps : List Int} (hrow : W.ownsRow B 31 1 (.slice pa ps.length pc) ps.length (ps.map (Value.int .u64))) (t : Int) (ht : 0 ≤ t ∧ t ≤ 18446744073709551615) (hp : ∀ x ∈ ps, 0 ≤ x ∧ x ≤ 18446744073709551615) (d : Int) (hd : -9223372036854775808 ≤ d ∧ d ≤ 9223372036854775807) (hl : ps.length ≤ 8) :
    ObS (.com (t, ps, ⟨#[]⟩, d, ⟨#[]⟩)) (.iface 78 (.agg #[.int .u64 t, .slice pa ps.length pc, .string ⟨#[]⟩, .int .i64 d, .string ⟨#[]⟩])) W := by
  obtain ⟨a2, c2, e2, hI⟩ := own_ids hrow
  cases e2
  obtain ⟨a3, c3, e3, h3, h4⟩ := row_shapeN hrow
  cases e3
  have hC : Com W t pa ps.length pc ps ⟨#[]⟩ d ⟨#[]⟩ := ⟨⟨by omega, by omega⟩, hI, fun x hx => by have := hp x hx; omega, ⟨h3, by omega, h4⟩, by decide, ⟨by omega, by omega⟩, by decide⟩
  exact ⟨⟨pa, pc, rfl, hC⟩, trivial⟩
theorem putG_ok {os os' : List Ob} {o : Ob} (h : putG os o = some os') (hp : Pure os) (hg : ∀ p ∈ os, obErr p = 0) (hl : ∀ p ∈ os, (obB p).length ≤ 16384) (h0 : obErr o = 0) (hd : decG (obB o) = some o) (ho : (obB o).length ≤ 16384) : Pure os' ∧ (∀ p ∈ os', obErr p = 0) ∧ (∀ p ∈ os', (obB p).length ≤ 16384) ∧ os'.length ≤ os.length + 1 := by
  unfold putG at h
  cases hf : findO os (oid o) with
  | none =>
    rw [hf] at h
    simp only [Option.some.injEq] at h
    subst h
    refine ⟨hp.snoc hd hf, fun p hp' => ?_, fun p hp' => ?_, by simp⟩
    · rcases List.mem_append.1 hp' with h | h
      · exact hg p h
      · simp at h; subst h; exact h0
    · rcases List.mem_append.1 hp' with h | h
      · exact hl p h
      · simp at h; subst h; exact ho
  | some p =>
    rw [hf] at h
    simp only at h
    split at h
    · cases h
      exact ⟨hp, hg, hl, by omega⟩
    · cases h
theorem oid_rng (o : Ob) : oid o ≠ 0 ∧ 0 ≤ oid o ∧ oid o ≤ 18446744073709551615 := by
  have h := idOf_bounds (obB o)
  refine ⟨?_, h⟩
  show idOf (obB o) ≠ 0
  unfold idOf
  split <;> omega
theorem backsP_end (ids back : List Int) (n : Nat) (h : back.length = n) (P : List Int) (hP : P = if ids.length = 0 then [] else (back.take (min n 7)).map (backId ids)) : P = backs ids back := by
  rw [hP]
  unfold backs
  by_cases hi : ids.length = 0
  · rw [if_pos hi, if_pos hi]
  · rw [if_neg hi, if_neg hi]
    congr 1
    by_cases h7 : n ≤ 7
    · rw [show min n 7 = n by omega, List.take_of_length_le (by omega), List.take_of_length_le (by omega)]
    · rw [show min n 7 = 7 by omega]
end Go.Proofs.YtncagdfbgpdhfaaGreat
