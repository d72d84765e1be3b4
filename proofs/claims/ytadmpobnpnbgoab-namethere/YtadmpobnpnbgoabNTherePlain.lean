/- Names and paths are each other's way back: over bytes; and the walks' contracts in that shape. -/
import Derived.Test.YtadmpobnpnbgoabNSplit
import Derived.Test.YtadmpobnpnbgoabNDir
import Derived.Test.YtadmpobnpnbgoabNLiesWalk
namespace Go.Proofs.Ytadmpobnpnbgoab
open Go.RowKit Go.Shelf

theorem make_parts (a : List UInt8) (h : isP a = true) : makeP (parts a) = (a, 0) := by
  have h1 := (isP_iff a).1 h
  unfold makeP
  rw [firstN_of _ h1.2.1, if_neg (by simp), if_neg (by rw [glue_parts]; omega), glue_parts]
theorem make_back (ns : List (List UInt8)) (s : List UInt8) (h : makeP ns = (s, 0)) : isP s = true ∧ parts s = ns := by
  unfold makeP at h
  by_cases h0 : firstN ns = 0
  · rw [if_neg (by simp [h0])] at h
    by_cases h1 : 16 < ns.length ∨ 200 < (glue ns).length
    · rw [if_pos h1] at h; exact absurd (congrArg Prod.snd h) (by simp)
    · rw [if_neg h1] at h
      have hs := congrArg Prod.fst h
      simp only at hs
      have hg := firstN_zero _ h0
      rw [← hs]
      exact ⟨(isP_glue ns hg).2 (by omega), parts_glue ns hg⟩
  · rw [if_pos h0] at h; exact absurd (congrArg Prod.snd h) h0
theorem dir_join (a : List UInt8) (h : isP a = true) (h0 : a ≠ []) : dirP a = (glue (parts a).dropLast, (parts a).getLastD [], 0) ∧ joinR (glue (parts a).dropLast) ((parts a).getLastD []) = (a, 0) := by
  have hg := isP_good h
  have hn := parts_ne h0
  have ha := (isP_iff a).1 h
  refine ⟨by unfold dirP; rw [h, if_pos rfl, if_neg h0], ?_⟩
  have hsp : (parts a).dropLast ++ [(parts a).getLastD []] = parts a := by
    have := List.dropLast_concat_getLast hn
    rw [List.getLastD_eq_getLast?, List.getLast?_eq_some_getLast hn, Option.getD_some]; exact this
  have hgd : Good (parts a).dropLast := hg.sub (fun n hn => (List.dropLast_prefix _).subset hn)
  have hgl : Good [(parts a).getLastD []] := hg.sub (fun n hn => by rw [← hsp]; exact List.mem_append.2 (.inr hn))
  have hd : isP (glue (parts a).dropLast) = true := isP_prefix _ _ (List.dropLast_prefix _) hg (by rw [glue_parts]; exact h)
  have hl : isP ((parts a).getLastD []) = true := by
    have := (isP_glue _ hgl).2 ⟨by rw [glue_one]; have := (okName_parts _ (hgl _ (List.mem_singleton.2 rfl))).2.1; omega, by simp⟩
    rw [glue_one] at this; exact this
  have hpl : parts ((parts a).getLastD []) = [(parts a).getLastD []] := by
    have := parts_glue _ hgl
    rw [glue_one] at this; exact this
  unfold joinR
  have hf : firstP [glue (parts a).dropLast, (parts a).getLastD []] = 0 := by
    refine firstP_of _ fun p hp => ?_
    rcases List.mem_cons.1 hp with e | e
    · rw [e]; exact hd
    · rw [List.mem_singleton.1 e]; exact hl
  rw [hf, if_neg (by simp), joinP_parts _ _ hd hl, parts_glue _ hgd, hpl, hsp, glue_parts, if_pos h]
theorem join_back (a b s : List UInt8) (h : joinR a b = (s, 0)) : isP a = true ∧ isP b = true ∧ isP s = true ∧ parts s = parts a ++ parts b := by
  unfold joinR at h
  by_cases h0 : firstP [a, b] = 0
  · rw [if_neg (by simp [h0])] at h
    have hp := firstP_zero _ h0
    have ha := hp a (by simp)
    have hb := hp b (by simp)
    rw [joinP_parts a b ha hb] at h
    by_cases h1 : isP (glue (parts a ++ parts b)) = true
    · rw [if_pos h1] at h
      have hs := congrArg Prod.fst h
      simp only at hs
      rw [← hs]
      exact ⟨ha, hb, h1, parts_glue _ ((isP_good ha).append (isP_good hb))⟩
    · rw [if_neg h1] at h; exact absurd (congrArg Prod.snd h) (by simp)
  · rw [if_pos h0] at h; exact absurd (congrArg Prod.snd h) h0
theorem join_rest (a b s : List UInt8) (h : joinR a b = (s, 0)) : inP s a = true ∧ restP s a = some b ∧ depthP s = depthP a + depthP b := by
  obtain ⟨ha, hb, hs, hp⟩ := join_back a b s h
  refine ⟨(inP_iff _ _).2 ⟨hs, ha, by rw [hp]; exact List.prefix_append _ _⟩, ?_, ?_⟩
  · rw [restP_parts s a hs ha, hp, if_pos (List.prefix_append _ _), List.drop_left, glue_parts]
  · unfold depthP
    rw [ha, hb, hs, hp]
    simp
theorem joinR_len (p q : List UInt8) : (joinR p q).1.length ≤ 200 ∨ (joinR p q).1.length ≤ p.length ∨ (joinR p q).1.length ≤ q.length := by
  unfold joinR
  split
  · simp
  · cases h2 : joinP p q with
    | none => simp
    | some x =>
      simp only
      unfold joinP at h2
      split at h2
      · injection h2 with h2; rw [← h2]; omega
      · split at h2
        · injection h2 with h2; rw [← h2]; omega
        · split at h2
          · cases h2
          · injection h2 with h2
            rename_i h3
            rw [← h2, List.length_append, List.length_cons]; omega
theorem makeP_len (ns : List (List UInt8)) : (makeP ns).1.length ≤ 200 := by
  unfold makeP
  split
  · simp
  · split
    · simp
    · simp only; omega

theorem Split_ok (s : ByteArray) (hs : s.size ≤ 20000) (h : isP (bs s) = true) (w : World) :
    Calls Try.prog 11 #[.string s] w fun e w' => (∃ a c, e = .returned (.tuple #[.slice a (parts (bs s)).length c, .int .i64 0]) ∧ (parts (bs s)).length ≤ c ∧ Strs w' a (parts (bs s)).length ((parts (bs s)).map mk)) ∧ Below w.heap.size w w' := by
  refine (Split_any s w (by omega)).mono ?_
  rintro e w' ⟨⟨v, rfl, hrow⟩, hB⟩
  rw [h, if_pos rfl] at hrow
  have h0 : (pathSpot (bs s)).1 = 0 := by unfold isP at h; simpa using h
  obtain ⟨a, c, rfl, hc, hst⟩ := row_strs hrow
  rw [List.length_map] at hc hst
  refine ⟨⟨a, c, by rw [h0, List.length_map]; rfl, hc, hst⟩, hB⟩
theorem Split_no (s : ByteArray) (hs : s.size ≤ 20000) (e1 : Nat) (h : e1 = (pathSpot (bs s)).1) (w : World) :
    Calls Try.prog 11 #[.string s] w fun e w' => (∃ v, e = .returned (.tuple #[v, .int .i64 (e1 : Int)])) ∧ Below w.heap.size w w' := by
  refine (Split_any s w (by omega)).mono ?_
  rintro e w' ⟨⟨v, rfl, hrow⟩, hB⟩
  exact ⟨⟨v, by rw [h]⟩, hB⟩
theorem parts_len_small (s : List UInt8) (h : isP s = true) : (parts s).length ≤ 16 := ((isP_iff s).1 h).2.2
theorem map_bs_mk (l : List (List UInt8)) : (l.map mk).map bs = l := by
  rw [List.map_map]
  have : ∀ x ∈ l, (bs ∘ mk) x = x := fun x _ => bs_mk x
  rw [List.map_congr_left this, List.map_id']
theorem map_mk_bs (l : List ByteArray) : (l.map bs).map mk = l := by
  rw [List.map_map]
  have : ∀ x ∈ l, (mk ∘ bs) x = x := fun x _ => mk_bs x
  rw [List.map_congr_left this, List.map_id']
end Go.Proofs.Ytadmpobnpnbgoab
