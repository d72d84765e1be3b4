import Derived.Test.YtggnglgehobglaaGreatDoorP12
import Derived.Test.YtggnglgehobglaaGreatDoorP25
import Derived.Test.YtggnglgehobglaaGreatDoorP14
/- The walk of Rule. -/
namespace Go.Proofs.YtggnglgehobglaaGreatDoor
open Go.RowKit Go.Shelf Go.Maps

attribute [local go_sem] Oper.semAt_some

/-- what Rule answers -/
def rulR (F : List Ru) (l : List UInt8) : Ru × Bool := if isP l = true then (ruleT (tabL F) l, decide (ruleT (tabL F) l ≠ noR)) else (noR, false)
theorem rb_ret {W : World} {p : Nat} {kk : Int} {f t : ByteArray} {v : Value} {a : Act} {P : Ending → World → Prop} (hb : BoxR W p kk f t) (ha : a.tmps[4]?.getD undef = .pointer (some ⟨p, 0, none⟩)) (hv : a.tmps[5]?.getD undef = v) (hd : a.defers = []) (hP : P (.returned (.tuple #[rv kk f t, v])) W) : bodyPost Tryz.prog Tryz.f11 P Exit.ret a W := by
  obtain ⟨c0, c1, c2⟩ := hb.cell
  exact bodyPost_ret (v := .tuple #[rv kk f t, v]) (by simp [results, Tryz.results11, go_sem, ha, hv, c0, c1, c2]) hd hP
set_option maxRecDepth 100000 in
set_option maxHeartbeats 4000000 in
theorem Irule_any (w : World) (m : Nat) (F : List Ru) (s : ByteArray) (hM : MpAt w m F) (hs : s.size ≤ maxLen) :
    Calls Tryz.prog 11 #[.pointer (some ⟨m, 0, none⟩), .string s] w fun e w' => e = .returned (.tuple #[ruV (rulR F (bs s)).1, .bool (rulR F (bs s)).2]) ∧ Below w.heap.size w w' := by
  have hpa := fun W => misPath_any s W hs
  have hmx : Tryz.prog.follows .mixedOrders = true := by kernel_rfl
  have hb0 := BoxR.new w 0 ⟨#[]⟩ ⟨#[]⟩
  have H0 : Hid (BoxR (w.alloc (.cells #[.int .i64 0, .string ⟨#[]⟩, .string ⟨#[]⟩] 31)) w.heap.size 0 ⟨#[]⟩ ⟨#[]⟩ ∧ Below w.heap.size w (w.alloc (.cells #[.int .i64 0, .string ⟨#[]⟩, .string ⟨#[]⟩] 31)) ∧ MpAt w m F) := ⟨hb0, (Below.refl _ w).alloc (Nat.le_refl _) _, hM⟩
  clear hb0 hM
  cases hP : isP (bs s) with
  | false =>
    rw [hP] at hpa
    have HR : Hid (rulR F (bs s) = (noR, false)) := by
      show _ = _
      unfold rulR
      rw [hP]
      rfl
    clear hP
    go_enter Tryz.func11, Tryz.ntmps11
    go_wp2_with fail
    refine (hpa _).mono ?_
    clear hpa
    generalize w.alloc (.cells #[.int .i64 0, .string ⟨#[]⟩, .string ⟨#[]⟩] 31) = w1 at *
    generalize hbp : w.heap.size = bp at *
    have HBP : Hid (w.heap.size = bp) := hbp
    clear hbp
    rintro e w2 ⟨rfl, hB2⟩
    have H2 : Hid (BoxR w2 bp 0 ⟨#[]⟩ ⟨#[]⟩ ∧ Below bp w w2) := ⟨H0.out.1.below hB2 H0.out.1.lt, H0.out.2.1.trans (hB2.mono (Nat.le_of_lt H0.out.1.lt))⟩
    have HE : Hid (BoxR (((w2.setCell ⟨bp, 0, none⟩ (.int .i64 0)).setCell ⟨bp, 1, none⟩ (.string ⟨#[]⟩)).setCell ⟨bp, 2, none⟩ (.string ⟨#[]⟩)) bp 0 ⟨#[]⟩ ⟨#[]⟩ ∧ Below bp w (((w2.setCell ⟨bp, 0, none⟩ (.int .i64 0)).setCell ⟨bp, 1, none⟩ (.string ⟨#[]⟩)).setCell ⟨bp, 2, none⟩ (.string ⟨#[]⟩))) := ⟨H2.out.1.all 0 ⟨#[]⟩ ⟨#[]⟩, ((H2.out.2.setCell (p := ⟨bp, 0, none⟩) (Nat.le_refl _) _).setCell (p := ⟨bp, 1, none⟩) (Nat.le_refl _) _).setCell (p := ⟨bp, 2, none⟩) (Nat.le_refl _) _⟩
    clear hB2
    obtain ⟨e0, e1, e2⟩ := H2.out.1.cell
    obtain ⟨z0, z1, z2⟩ := H2.out.1.frozen
    go_wp2
    exact rb_ret HE.out.1 rfl rfl rfl ⟨by rw [HR.out]; rfl, by rw [HBP.out]; exact HE.out.2⟩
  | true =>
    rw [hP] at hpa
    have HR : Hid (rulR F (bs s) = (ruleT (tabL F) (bs s), decide (ruleT (tabL F) (bs s) ≠ noR))) := by
      show _ = _
      unfold rulR
      rw [hP]
      rfl
    clear hP
    go_enter Tryz.func11, Tryz.ntmps11
    go_wp2_with fail
    refine (hpa _).mono ?_
    clear hpa
    generalize w.alloc (.cells #[.int .i64 0, .string ⟨#[]⟩, .string ⟨#[]⟩] 31) = w1 at *
    generalize hbp : w.heap.size = bp at *
    have HBP : Hid (w.heap.size = bp) := hbp
    clear hbp
    rintro e w2 ⟨rfl, hB2⟩
    have H2 : Hid (BoxR w2 bp 0 ⟨#[]⟩ ⟨#[]⟩ ∧ Below bp w w2 ∧ MpAt w2 m F) := ⟨H0.out.1.below hB2 H0.out.1.lt, H0.out.2.1.trans (hB2.mono (Nat.le_of_lt H0.out.1.lt)), H0.out.2.2.below (by rw [HBP.out]; exact H0.out.2.1.trans (hB2.mono (Nat.le_of_lt H0.out.1.lt)))⟩
    clear hB2 H0
    obtain ⟨a, n, c, b, c0, c1, _, _, hT, _⟩ := H2.out.2.2.ex
    have htr := trule_any w2 b (tabL F) n s hT hs
    clear hT
    generalize ruleT (tabL F) (bs s) = R at *
    obtain ⟨k2, f2, t2⟩ := R
    go_wp2_with fail
    refine htr.mono ?_
    clear htr c0 c1
    rintro e w3 ⟨rfl, hB3⟩
    have H3 : Hid (BoxR w3 bp 0 ⟨#[]⟩ ⟨#[]⟩ ∧ Below bp w w3) := ⟨H2.out.1.below hB3 H2.out.1.lt, H2.out.2.1.trans (hB3.mono (Nat.le_of_lt H2.out.1.lt))⟩
    clear hB3 H2
    have hne := fun W => neR W k2 0 (mk f2) ⟨#[]⟩ (mk t2) ⟨#[]⟩
    have HQ : Hid ((!(k2 == 0 && ((mk f2).toList == (⟨#[]⟩ : ByteArray).toList && (mk t2).toList == (⟨#[]⟩ : ByteArray).toList))) = decide ((k2, f2, t2) ≠ noR)) := by
      show _ = _
      rw [toList_bs, toList_bs, toList_bs, bs_mk, bs_mk, show bs ⟨#[]⟩ = [] from rfl]
      simp only [noR]
      by_cases h1 : k2 = 0 <;> by_cases h2 : f2 = [] <;> by_cases h3 : t2 = [] <;> simp [h1, h2, h3]
    have H4 : Hid (BoxR (w3.alloc (.cells #[.int .i64 k2, .string (mk f2), .string (mk t2)] 31)) bp 0 ⟨#[]⟩ ⟨#[]⟩ ∧ BoxR (w3.alloc (.cells #[.int .i64 k2, .string (mk f2), .string (mk t2)] 31)) w3.heap.size k2 (mk f2) (mk t2) ∧ Below bp w (w3.alloc (.cells #[.int .i64 k2, .string (mk f2), .string (mk t2)] 31)) ∧ bp < w3.heap.size) := ⟨H3.out.1.below ((Below.refl _ w3).alloc (Nat.le_refl _) _) H3.out.1.lt, BoxR.new w3 _ _ _, H3.out.2.alloc (Nat.le_of_lt H3.out.1.lt) _, H3.out.1.lt⟩
    clear H3
    go_upto_region 4 with fail
    generalize (!(k2 == 0 && ((mk f2).toList == (⟨#[]⟩ : ByteArray).toList && (mk t2).toList == (⟨#[]⟩ : ByteArray).toList))) = BQ at *
    simp only [ruV]
    generalize hf : mk f2 = f at *
    generalize ht : mk t2 = t at *
    have HFT : Hid (mk f2 = f ∧ mk t2 = t) := ⟨hf, ht⟩
    clear hf ht
    generalize w3.alloc (.cells #[.int .i64 k2, .string f, .string t] 31) = w4 at *
    generalize w3.heap.size = bx at *
    obtain ⟨x0, x1, x2⟩ := H4.out.1.cell
    obtain ⟨y0, y1, y2⟩ := H4.out.1.frozen
    obtain ⟨v0, v1, v2⟩ := H4.out.2.1.cell
    have hbb : bp < bx := H4.out.2.2.2
    have hbn : ¬ bx = bp := by omega
    go_region
    have HE : Hid (BoxR ((((w4.setCell ⟨bp, 0, none⟩ (.int .i64 k2)).setCell ⟨bp, 1, none⟩ (.string f)).setCell ⟨bp, 2, none⟩ (.string t)).drew) bp k2 f t ∧ Below bp w ((((w4.setCell ⟨bp, 0, none⟩ (.int .i64 k2)).setCell ⟨bp, 1, none⟩ (.string f)).setCell ⟨bp, 2, none⟩ (.string t)).drew)) := by
      have h1 := H4.out.1.all k2 f t
      have h2 := ((H4.out.2.2.1.setCell (p := ⟨bp, 0, none⟩) (Nat.le_refl _) (.int .i64 k2)).setCell (p := ⟨bp, 1, none⟩) (Nat.le_refl _) (.string f)).setCell (p := ⟨bp, 2, none⟩) (Nat.le_refl _) (.string t)
      exact ⟨h1, ⟨h2.os, h2.tape, h2.output, h2.size, h2.block⟩⟩
    go_wp2
    exact rb_ret HE.out.1 rfl rfl rfl ⟨by rw [HR.out, ← HQ.out, ← HFT.out.1, ← HFT.out.2]; rfl, by rw [HBP.out]; exact HE.out.2⟩
end Go.Proofs.YtggnglgehobglaaGreatDoor

/- What PathmapThere asks, plain. -/
namespace Go.Proofs.YtggnglgehobglaaGreatDoor

theorem isP_spot {l : List UInt8} : isP l = false → (pathSpot l).1 ≠ 0 := by
  unfold isP
  intro h e
  rw [e] at h
  cases h
theorem thr_zero {l : List UInt8} {R : Option (List UInt8)} (h : (thr l R).2 = 0) : isP l = true ∧ ∃ x, R = some x ∧ isP x = true ∧ thr l R = (x, 0) := by
  unfold thr at h ⊢
  by_cases h1 : isP l = false
  · rw [if_pos h1] at h
    have := isP_spot h1
    simp only at h
    omega
  · rw [if_neg h1] at h ⊢
    have h2 : isP l = true := by simpa using h1
    cases R with
    | none => cases h
    | some x =>
      simp only at h ⊢
      by_cases h3 : isP x = true
      · rw [if_pos h3]
        exact ⟨h2, x, rfl, h3, rfl⟩
      · rw [if_neg h3] at h
        cases h
theorem thr_some {l x : List UInt8} (h1 : isP l = true) (h2 : isP x = true) : thr l (some x) = (x, 0) := by
  unfold thr
  rw [if_neg (by rw [h1]; decide)]
  simp only
  rw [if_pos h2]
/-- there and back -/
theorem there1 {F : List Ru} (hF : FOk F) (hA : AgrF F) {l : List UInt8} (h : (thr l (imgL F l)).2 = 0) : thr (thr l (imgL F l)).1 (srcL F (thr l (imgL F l)).1) = (l, 0) := by
  obtain ⟨h1, x, h2, h3, h4⟩ := thr_zero h
  rw [h4]
  have hb : srcL F x = some l := by
    have := there_back hF hA (A := parts l) (isP_good h1) (x := x) (by rw [glue_parts]; exact h2)
    rwa [glue_parts] at this
  simp only
  rw [hb]
  exact thr_some h3 h1
theorem there2 {F : List Ru} (hF : FOk F) (hA : AgrF F) {l : List UInt8} (h : (thr l (srcL F l)).2 = 0) : thr (thr l (srcL F l)).1 (imgL F (thr l (srcL F l)).1) = (l, 0) := by
  obtain ⟨h1, x, h2, h3, h4⟩ := thr_zero h
  rw [h4]
  have hb : imgL F x = some l := by
    have := back_there hF hA (X := parts l) (isP_good h1) (l := x) (by rw [glue_parts]; exact h2)
    rwa [glue_parts] at this
  simp only
  rw [hb]
  exact thr_some h3 h1
theorem there3 {F : List Ru} (hF : FOk F) (hA : AgrF F) {a b : List UInt8} (ha : (thr a (imgL F a)).2 = 0) (hb : (thr b (imgL F b)).2 = 0) :
    inP a b = inP (thr a (imgL F a)).1 (thr b (imgL F b)).1 ∧ (a = b ↔ (thr a (imgL F a)).1 = (thr b (imgL F b)).1) := by
  obtain ⟨a1, x, a2, a3, a4⟩ := thr_zero ha
  obtain ⟨b1, y, b2, b3, b4⟩ := thr_zero hb
  rw [a4, b4]
  obtain ⟨h1, h2⟩ := in_images hF hA (A := parts a) (B := parts b) (isP_good a1) (isP_good b1) (x := x) (y := y) (by rw [glue_parts]; exact a2) (by rw [glue_parts]; exact b2)
  refine ⟨?_, ?_⟩
  · rw [Bool.eq_iff_iff, inP_iff, inP_iff]
    simp only
    exact ⟨fun h => ⟨a3, b3, h1.1 h.2.2⟩, fun h => ⟨a1, b1, h1.2 h.2.2⟩⟩
  · simp only
    rw [← h2]
    exact ⟨fun e => by rw [e], fun e => by rw [← glue_parts a, e, glue_parts]⟩
/-- the kinds of a Map's rules -/
def Knd (F : List Ru) : Prop := ∀ r ∈ F, r.1 = 1 ∨ r.1 = 2 ∨ r.1 = 3
theorem form_knd {rs : List Ru} {n : Nat} {ks : List (List UInt8)} (hn : rs.length = n) (h : GoodU rs n) (hK : KeyL (tabL rs) ks) : Knd (formT (tabL rs) ks) := fun q hq => by
  obtain ⟨x, r, hr, rfl⟩ := form_mem hK hq
  have hm := (tabL_mem rs x r hr).1
  obtain ⟨j, hj, e⟩ := List.getElem_of_mem hm
  have hok := (besE_ok (h j r (by omega) (List.getElem?_eq_some_iff.2 ⟨hj, e⟩))).1
  unfold okR at hok
  unfold plnR
  split
  · exact .inl rfl
  · simp only [Bool.and_eq_true, Bool.or_eq_true, decide_eq_true_eq] at hok
    rcases hok.2 with h | ⟨h | h, _⟩
    · exact .inr (.inr h)
    · exact .inl h
    · exact .inr (.inl h)
theorem rule_cases {F : List Ru} (hK : Knd F) {l : List UInt8} (h : isP l = true) : ruleT (tabL F) l = noR ∨ (ruleT (tabL F) l ∈ F ∧ ((ruleT (tabL F) l).1 = 1 ∨ (ruleT (tabL F) l).1 = 2 ∨ (ruleT (tabL F) l).1 = 3) ∧ ∃ i, i ≤ (parts l).length ∧ (ruleT (tabL F) l).2.1 = glue ((parts l).take i)) := by
  have := ruleT_pre (F := F) (A := parts l) (isP_good h)
  rw [glue_parts] at this
  rcases this with h | ⟨h1, h2⟩
  · exact .inl h
  · exact .inr ⟨h1, hK _ h1, h2⟩
/-- what Image tells, by the rule's kind -/
theorem thr_kind {F : List Ru} (hF : FOk F) (hK : Knd F) {l : List UInt8} (h : isP l = true) :
    (ruleT (tabL F) l = noR ∧ thr l (imgL F l) = ([], 4)) ∨
    ((ruleT (tabL F) l).1 = 1 ∧ thr l (imgL F l) = (l, 0)) ∨
    ((ruleT (tabL F) l).1 = 2 ∧ thr l (imgL F l) = ([], 4)) ∨
    ((ruleT (tabL F) l).1 = 3 ∧ ((thr l (imgL F l)).2 = 0 ∨ (thr l (imgL F l)).2 = 3) ∧ ((moveP l (ruleT (tabL F) l).2.1 (ruleT (tabL F) l).2.2).1 = (thr l (imgL F l)).1 ∧ ((moveP l (ruleT (tabL F) l).2.1 (ruleT (tabL F) l).2.2).2 : Int) = (thr l (imgL F l)).2)) := by
  have hl : isP l ≠ false := by rw [h]; decide
  have hgl := isP_good h
  rcases rule_cases hK h with e | ⟨hm, hk, i, hi, he⟩
  · refine .inl ⟨e, ?_⟩
    unfold thr imgL
    rw [if_neg hl, e]
    rfl
  · have hrest : restP l (ruleT (tabL F) l).2.1 = some (glue ((parts l).drop i)) := by
      rw [he]
      have := restP_glue (parts l) ((parts l).take i) hgl (hgl.take i)
      rw [glue_parts, if_pos (List.take_prefix i _), List.length_take, Nat.min_eq_left hi] at this
      exact this
    obtain ⟨hp1, hp2⟩ := hF _ hm
    generalize hR : ruleT (tabL F) l = r at *
    rcases hk with hk | hk | hk
    · refine .inr (.inl ⟨hk, ?_⟩)
      have himg : imgL F l = some l := by
        unfold imgL
        rw [hR, if_pos (by rw [hk]; rfl), hrest, Option.getD_some]
        have ht : tgtR r = r.2.1 := by unfold tgtR; rw [if_pos hk]
        rw [ht, he, joinR_glue _ _ (hgl.take i) (hgl.drop i), List.take_append_drop, glue_parts]
      rw [himg]
      exact thr_some h h
    · refine .inr (.inr (.inl ⟨hk, ?_⟩))
      unfold thr imgL
      rw [if_neg hl, hR, if_neg (by rw [hk]; decide)]
    · refine .inr (.inr (.inr ⟨hk, ?_⟩))
      have ht : tgtR r = r.2.2 := by unfold tgtR; rw [if_neg (by rw [hk]; decide)]
      have hg2 : Good (parts r.2.2) := isP_good hp2
      have himg : imgL F l = some (glue (parts r.2.2 ++ (parts l).drop i)) := by
        unfold imgL
        rw [hR, if_pos (by rw [hk]; rfl), hrest, Option.getD_some, ht]
        conv => lhs; rw [← glue_parts r.2.2]
        rw [joinR_glue _ _ hg2 (hgl.drop i)]
      have hd : isP (glue ((parts l).drop i)) = true := by
        rw [isP_iff] at h
        rw [isP_glue _ (hgl.drop i)]
        refine ⟨?_, by rw [List.length_drop]; omega⟩
        have hrl : (glue ((parts l).drop i)).length ≤ l.length := by
          unfold restP at hrest
          split at hrest
          · rw [← Option.some.inj hrest]
            exact Nat.le_refl _
          · split at hrest
            · rw [← Option.some.inj hrest]
              exact Nat.zero_le _
            · split at hrest
              · have := Option.some.inj hrest
                rw [← this, List.length_drop]
                omega
              · cases hrest
        omega
      have hf0 : firstP [l, r.2.1, r.2.2] = 0 := by simp [firstP, h, hp1, hp2]
      have hmv : moveP l r.2.1 r.2.2 = match joinP r.2.2 (glue ((parts l).drop i)) with
          | none => ([], 3)
          | some x => (x, 0) := by
        unfold moveP
        rw [if_neg (by rw [hf0]; decide), hrest]
        rfl
      rw [joinP_parts _ _ hp2 hd, parts_glue _ (hgl.drop i)] at hmv
      rw [himg, hmv]
      unfold thr
      rw [if_neg hl]
      simp only
      by_cases hx : isP (glue (parts r.2.2 ++ (parts l).drop i)) = true
      · rw [if_pos hx, if_pos hx]
        exact ⟨.inl rfl, rfl, rfl⟩
      · rw [if_neg hx, if_neg hx]
        exact ⟨.inr rfl, rfl, rfl⟩
end Go.Proofs.YtggnglgehobglaaGreatDoor
