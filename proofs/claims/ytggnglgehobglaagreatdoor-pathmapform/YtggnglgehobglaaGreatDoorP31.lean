import Derived.Test.YtggnglgehobglaaGreatDoorP30
/- The walk of Compose (gencomp.py). -/
namespace Go.Proofs.YtggnglgehobglaaGreatDoor
open Go.RowKit Go.Shelf Go.Maps

attribute [local go_sem] Oper.semAt_some

theorem srcR_len2 {F : List Ru} : ∀ (H : List Ru), FOk H → ∀ {l x : List UInt8}, srcR F H l = some x → x.length ≤ l.length + 201
  | [], _, l, x, h => by cases h
  | r :: H, hH, l, x, h => by
    have ih := fun h => srcR_len2 (F := F) H (fun q hq => hH q (by simp [hq])) (l := l) (x := x) h
    simp only [srcR] at h
    split at h
    · split at h
      · exact ih h
      · rename_i left hleft
        split at h
        · have h4 := congrArg List.length (Option.some.inj h)
          have h1 := isP_len (hH r (by simp)).1
          have h2 := restP_len l (tgtR r) left hleft
          have h3 := joinR_len r.2.1 left
          omega
        · cases h
    · exact ih h
theorem thR_len {F G : List Ru} (hF : FOk F) (hG : FOk G) (x : List UInt8) : (thR F G x).2.1.length ≤ x.length ∧ (thR F G x).2.2.length ≤ x.length + 402 := by
  rw [thR_from]
  refine ⟨Nat.le_refl _, ?_⟩
  unfold thR
  cases h1 : imgL F x with
  | none => exact Nat.zero_le _
  | some y =>
    show (match imgL G y with | none => ((2, x, []) : Ru) | some z => (3, x, z)).2.2.length ≤ _
    cases h2 : imgL G y with
    | none => exact Nat.zero_le _
    | some z =>
      have a1 := imgL_len2 hF h1
      have a2 := imgL_len2 hG h2
      show z.length ≤ _
      omega
theorem th_len {F G : List Ru} (hF : FOk F) (hG : FOk G) {q : Ru} (h : q ∈ thL F G) : q.2.1.length ≤ 1000 ∧ q.2.2.length ≤ 2000 := by
  have h1 : q.2.1.length ≤ 401 := by
    unfold thL at h
    rcases List.mem_append.1 h with h | h
    · obtain ⟨r, hr, rfl⟩ := List.mem_map.1 h
      rw [thR_from]
      have := isP_len (hF r hr).1
      omega
    · obtain ⟨r, hr, e⟩ := List.mem_filterMap.1 h
      cases e2 : srcL F r.2.1 with
      | none => rw [e2] at e; cases e
      | some x =>
        rw [e2] at e
        have e' : thR F G x = q := Option.some.inj e
        rw [← e', thR_from]
        have a1 := srcR_len2 F hF e2
        have a2 := isP_len (hG r hr).1
        omega
  have h2 := thR_len hF hG q.2.1
  rw [← th_mem h] at h2
  omega
theorem tooB_false {F : List Ru} (h : tooB F = false) : FOk F ∧ F.length ≤ 64 := by
  unfold tooB at h
  rw [Bool.or_eq_false_iff] at h
  refine ⟨fun r hr => ?_, by have := of_decide_eq_false h.2; omega⟩
  have := List.any_eq_false.1 h.1 r hr
  simpa using this
theorem tooB_of {F : List Ru} (h : FOk F) (hn : F.length ≤ 64) : tooB F = false := by
  unfold tooB
  rw [Bool.or_eq_false_iff]
  refine ⟨List.any_eq_false.2 fun r hr => ?_, decide_eq_false (by omega)⟩
  rw [(h r hr).1, (h r hr).2]
  decide
theorem th_step1 {F G : List Ru} {k : Nat} {r : Ru} (hr : F[k]? = some r) : tabL ((F.take (k + 1)).map (fun r => thR F G r.2.1)) = setT (tabL ((F.take k).map (fun r => thR F G r.2.1))) r.2.1 (thR F G r.2.1) := by
  obtain ⟨hk, rfl⟩ := List.getElem?_eq_some_iff.1 hr
  rw [List.take_succ_eq_append_getElem hk, List.map_append, List.map_singleton, tabL_snoc, thR_from]
theorem th_step2 {F G : List Ru} (L : List Ru) {k : Nat} {r : Ru} {x : List UInt8} (hr : G[k]? = some r) (hx : srcL F r.2.1 = some x) : tabL (L ++ (G.take (k + 1)).filterMap (fun r => (srcL F r.2.1).map (thR F G))) = setT (tabL (L ++ (G.take k).filterMap (fun r => (srcL F r.2.1).map (thR F G)))) x (thR F G x) := by
  obtain ⟨hk, rfl⟩ := List.getElem?_eq_some_iff.1 hr
  rw [List.take_succ_eq_append_getElem hk, List.filterMap_append, show List.filterMap (fun r : Ru => (srcL F r.2.1).map (thR F G)) [G[k]] = [thR F G x] by simp [hx], ← List.append_assoc, tabL_snoc, thR_from]
theorem th_step3 {F G : List Ru} {k : Nat} {r : Ru} (hr : G[k]? = some r) (hx : srcL F r.2.1 = none) : (G.take (k + 1)).filterMap (fun r => (srcL F r.2.1).map (thR F G)) = (G.take k).filterMap (fun r => (srcL F r.2.1).map (thR F G)) := by
  obtain ⟨hk, rfl⟩ := List.getElem?_eq_some_iff.1 hr
  rw [List.take_succ_eq_append_getElem hk, List.filterMap_append, show List.filterMap (fun r : Ru => (srcL F r.2.1).map (thR F G)) [G[k]] = [] by simp [hx], List.append_nil]
set_option maxRecDepth 20000 in
theorem step_through (w : World) {ops : Array Oper} {o : Oper} {a : Act} {K : Act → World → Prop} {Q : Exit → Act → World → Prop} {E : Prop} (hgd : o.guard = none) (x y z : Nat) (t1 t2 t3 : TypeId)
    (ho : o.op = .call { callee := .value (.func 27), args := #[.tmp x, .tmp y, .tmp z], argTypes := #[t1, t2, t3] }) (vx vy vz : Value) (hx : a.tmps[x]?.getD undef = vx) (hy : a.tmps[y]?.getD undef = vy) (hz : a.tmps[z]?.getD undef = vz) (R : Value → World → Prop)
    (hc : Calls Tryz.prog 27 #[vx, vy, vz] w fun e w' => ∃ v, e = .returned v ∧ R v w') (hK : ∀ v w', R v w' → K (a.put o.dst v) w') :
    if Region.wanted o (yielded ops a.tmps) = true then Oper.wp Tryz.prog o a w K Q else E := by
  have hw : Region.wanted o (yielded ops a.tmps) = true := by simp [Region.wanted, hgd]
  rw [if_pos hw]
  unfold Oper.wp execOp
  simp [ho, resolve, invoke, go_sem, hx, hy, hz]
  refine hc.mono ?_
  rintro e w' ⟨v, rfl, hR⟩
  have := hK v w' hR
  simpa [go_sem] using this
set_option maxRecDepth 100000 in
set_option maxHeartbeats 8000000 in
theorem compose_any (w : World) (a b : Nat) (F G : List Ru) (hM : MpAt w a F) (hV : MpAt w b G) :
    Calls Tryz.prog 10 #[.pointer (some ⟨a, 0, none⟩), .pointer (some ⟨b, 0, none⟩)] w fun e w' => (∃ ks, KeyL (tabL (thL F G)) ks ∧ ((tooB (formT (tabL (thL F G)) ks) = true ∧ e = .returned (.tuple #[.pointer none, .int .i64 3])) ∨ (tooB (formT (tabL (thL F G)) ks) = false ∧ ∃ v, e = .returned (.tuple #[.pointer (some ⟨v, 0, none⟩), .int .i64 0]) ∧ MpAt w' v (formT (tabL (thL F G)) ks)))) ∧ Below w.heap.size w w' := by
  obtain ⟨a1, n1, c1, b1, k0, k1, h1, h2, h3, h4⟩ := hM.ex
  obtain ⟨a2, n2, c2, b2, l0, l1, g1, g2, g3, g4⟩ := hV.ex
  have hmm := @run_makeMap Tryz.prog
  have hmx : Tryz.prog.follows .mixedOrders = true := by kernel_rfl
  have H0 : Hid (TbAt (w.alloc (.map #[] 0)) w.heap.size (fun _ => none) 0 ∧ Below w.heap.size w (w.alloc (.map #[] 0))) := ⟨TbAt.new w, (Below.refl _ w).alloc (Nat.le_refl _) _⟩
  have k0' : (w.alloc (.map #[] 0)).cell? ⟨a, 0, none⟩ = some (.slice a1 n1 c1) := (H0.out.2.cell (p := ⟨a, 0, none⟩) (World.block_lt_of_cell? w _ k0)).trans k0
  have HM : Hid (MpAt w a F ∧ MpAt w b G ∧ Rus w a1 n1 F ∧ Rus w a2 n2 G ∧ w.cell? ⟨b, 0, none⟩ = some (.slice a2 n2 c2)) := ⟨hM, hV, h1, g1, l0⟩
  have hn1 := h4.1
  have hn2 := g4.1
  clear h1 h2 h3 h4 g1 g2 g3 g4 k0 k1 l1 l0 hM hV
  go_enter Tryz.func10, Tryz.ntmps10
  go_wp2
  generalize w.alloc (.map #[] 0) = w1 at *
  generalize hmb : w.heap.size = mb at *
  have HMB : Hid (w.heap.size = mb) := hmb
  clear hmm hmb k0'
  go_loopw [26] (fun v wr => ∃ k : Nat, k ≤ n1 ∧ v = .int .i64 (k : Int) ∧ Hid (TbAt wr mb (tabL ((F.take k).map (fun r => thR F G r.2.1))) k ∧ Below mb w wr)) (fun v _ => n1 - (intOf v).toNat)
  case atStart => exact ⟨0, Nat.zero_le _, rfl, H0.out⟩
  case round =>
    obtain ⟨k, hk, rfl, H⟩ := hrel
    by_cases hlt : k < n1
    · obtain ⟨r, hr⟩ : ∃ r, F[k]? = some r := ⟨_, List.getElem?_eq_getElem (by rw [HM.out.2.2.1.1]; exact hlt)⟩
      obtain ⟨b1, o1, hae, hc1⟩ := (HM.out.2.2.1.kept (by rw [HMB.out]; exact H.out.2)).2 (by omega)
      subst hae
      obtain ⟨q0, q1, q2⟩ := hc1 k r hr
      have hrok := HM.out.1.ok r (List.mem_of_getElem? hr)
      obtain ⟨f, hf⟩ : ∃ f, f = mk r.2.1 := ⟨_, rfl⟩
      obtain ⟨t, ht⟩ : ∃ t, t = mk r.2.2 := ⟨_, rfl⟩
      have hfs : f.size ≤ 200 := by rw [hf, ← bs_len, bs_mk]; exact isP_len hrok.1
      rw [← hf] at q1
      rw [← ht] at q2
      have hbx : BoxR (wr.alloc (.cells #[.int .i64 r.1, .string f, .string t] 31)) wr.heap.size r.1 f t := BoxR.new wr r.1 f t
      have hW3 : Below wr.heap.size wr (wr.alloc (.cells #[.int .i64 r.1, .string f, .string t] 31)) := (Below.refl _ wr).alloc (Nat.le_refl _) _
      have hmw : mb ≤ wr.heap.size := Nat.le_trans (Nat.le_of_eq HMB.out.symm) H.out.2.size
      have HC : Hid (∀ W, Below (wr.alloc (.cells #[.int .i64 r.1, .string f, .string t] 31)).heap.size (wr.alloc (.cells #[.int .i64 r.1, .string f, .string t] 31)) W → W.cell? ⟨wr.heap.size, 0, none⟩ = some (.int .i64 r.1) ∧ W.cell? ⟨wr.heap.size, 1, none⟩ = some (.string f) ∧ W.cell? ⟨wr.heap.size, 2, none⟩ = some (.string t)) := fun W hW => (hbx.below hW hbx.lt).cell
      have HW : Hid (∀ W, Below (wr.alloc (.cells #[.int .i64 r.1, .string f, .string t] 31)).heap.size (wr.alloc (.cells #[.int .i64 r.1, .string f, .string t] 31)) W → Below mb w W ∧ TbAt W mb (tabL ((F.take k).map (fun r => thR F G r.2.1))) k ∧ MpAt W a F ∧ MpAt W b G) := fun W hW => by
        have hB : Below wr.heap.size wr W := hW3.trans (hW.mono hW3.size)
        have hB2 : Below mb w W := H.out.2.trans (hB.mono hmw)
        have hB3 : Below w.heap.size w W := by rw [HMB.out]; exact hB2
        exact ⟨hB2, H.out.1.below hB, HM.out.1.below hB3, HM.out.2.1.below hB3⟩
      have HX : Hid (∀ W W2, Below (wr.alloc (.cells #[.int .i64 r.1, .string f, .string t] 31)).heap.size (wr.alloc (.cells #[.int .i64 r.1, .string f, .string t] 31)) W → W.grownBy W2 (some mb) → W2.cell? ⟨wr.heap.size, 0, none⟩ = some (.int .i64 r.1) ∧ W2.cell? ⟨wr.heap.size, 1, none⟩ = some (.string f) ∧ W2.cell? ⟨wr.heap.size, 2, none⟩ = some (.string t)) := fun W W2 hW hg => by
        have hb2 := hbx.below hW hbx.lt
        have hb3 : BoxR W2 wr.heap.size r.1 f t := (hg.block _ hb2.lt (fun e => by have := Option.some.inj e; have := H.out.1.lt; omega)).trans hb2
        exact hb3.cell
      have hfb : bs f = r.2.1 := by rw [hf, bs_mk]
      have cT := fun W hW => through_any W a b F G f (HW.out W hW).2.2.1 (HW.out W hW).2.2.2 (by omega)
      rw [hfb] at cT
      have HN : Hid (tabL ((F.take (k + 1)).map (fun r => thR F G r.2.1)) = setT (tabL ((F.take k).map (fun r => thR F G r.2.1))) r.2.1 (thR F G r.2.1) ∧ bs f = r.2.1) := ⟨th_step1 hr, hfb⟩
      have i5 : (k : Int) < (n1 : Int) := by omega
      have i6 : ¬ n1 ≤ k := by omega
      generalize r.1 = kk at *
      generalize hTR : thR F G r.2.1 = TR at *
      clear hc1 hr hf ht hbx hW3 hrok H hmw hfb hTR
      go_upto_region 7 with fail
      generalize wr.alloc (.cells #[.int .i64 kk, .string f, .string t] 31) = w3 at *
      generalize wr.heap.size = bx at *
      clear q0 q1 q2
      have H3d : Hid (Below w3.heap.size w3 w3.drew) := ⟨rfl, rfl, rfl, Nat.le_refl _, fun _ _ => rfl⟩
      refine wp_region_G (S := SB 1000 (fun _ => True) (fun W => W.cell? ⟨bx, 0, none⟩ = some (.int .i64 kk) ∧ W.cell? ⟨bx, 1, none⟩ = some (.string f) ∧ W.cell? ⟨bx, 2, none⟩ = some (.string t))) hmx ?_
      have hSB : SB 1000 (fun _ => True) (fun W => W.cell? ⟨bx, 0, none⟩ = some (.int .i64 kk) ∧ W.cell? ⟨bx, 1, none⟩ = some (.string f) ∧ W.cell? ⟨bx, 2, none⟩ = some (.string t)) (Array.replicate 9 false) w3.drew := SB.off (by kernel_rfl) (HC.out _ H3d.out)
      refine wpAnyG_takeP (i := 0) (v := ?_) rfl (by kernel_rfl) (by kernel_rfl) (by kernel_rfl) (fun _ _ _ h => h) rfl (Or.inl ⟨by rfl, ?_⟩) (by assumption) ?_
      rotate_left
      · intro Y hY; obtain ⟨a0, a1, a2⟩ := hY; go_simp; try with_reducible rfl
      intro hSB0
      try simp only [Act.put, List.getElem_toArray, List.getElem_cons_zero, List.setIfInBounds_toArray, List.set_cons_zero, List.set_cons_succ]
      refine wpAnyG_takeP (i := 1) (v := ?_) rfl (by kernel_rfl) (by kernel_rfl) (by kernel_rfl) (fun _ _ _ h => h) rfl (Or.inl ⟨by rfl, ?_⟩) (by assumption) ?_
      rotate_left
      · intro Y hY; obtain ⟨a0, a1, a2⟩ := hY; go_simp; try with_reducible rfl
      intro hSB1
      try simp only [Act.put, List.getElem_toArray, List.getElem_cons_zero, List.getElem_cons_succ, List.setIfInBounds_toArray, List.set_cons_zero, List.set_cons_succ]
      refine wpAnyG_takeP (i := 2) (v := ?_) rfl (by kernel_rfl) (by kernel_rfl) (by kernel_rfl) (fun _ _ _ h => h) rfl (Or.inl ⟨by rfl, ?_⟩) (by assumption) ?_
      rotate_left
      · intro Y hY; obtain ⟨a0, a1, a2⟩ := hY; go_simp; try with_reducible rfl
      intro hSB2
      try simp only [Act.put, List.getElem_toArray, List.getElem_cons_zero, List.getElem_cons_succ, List.setIfInBounds_toArray, List.set_cons_zero, List.set_cons_succ]
      refine wpAnyG_takeP (i := 3) (v := ?_) rfl (by kernel_rfl) (by kernel_rfl) (by kernel_rfl) (fun _ _ _ h => h) rfl (Or.inl ⟨by rfl, ?_⟩) (by assumption) ?_
      rotate_left
      · intro Y hY; obtain ⟨a0, a1, a2⟩ := hY; go_simp; try with_reducible rfl
      intro hSB3
      try simp only [Act.put, List.getElem_toArray, List.getElem_cons_zero, List.getElem_cons_succ, List.setIfInBounds_toArray, List.set_cons_zero, List.set_cons_succ]
      refine wpAnyG_takeP (i := 4) (v := ?_) rfl (by kernel_rfl) (by kernel_rfl) (by kernel_rfl) (fun _ _ _ h => h) rfl (Or.inl ⟨by rfl, ?_⟩) (by assumption) ?_
      rotate_left
      · intro Y hY; obtain ⟨a0, a1, a2⟩ := hY; go_simp; try with_reducible rfl
      intro hSB4
      try simp only [Act.put, List.getElem_toArray, List.getElem_cons_zero, List.getElem_cons_succ, List.setIfInBounds_toArray, List.set_cons_zero, List.set_cons_succ]
      refine wpAnyG_takeP (i := 5) (v := ?_) rfl (by kernel_rfl) (by kernel_rfl) (by kernel_rfl) (fun _ _ _ h => h) rfl (Or.inl ⟨by rfl, ?_⟩) (by assumption) ?_
      rotate_left
      · intro Y hY; obtain ⟨a0, a1, a2⟩ := hY; go_simp; try with_reducible rfl
      intro hSB5
      try simp only [Act.put, List.getElem_toArray, List.getElem_cons_zero, List.getElem_cons_succ, List.setIfInBounds_toArray, List.set_cons_zero, List.set_cons_succ]
      refine wpAnyG_takeP (i := 6) (v := ?_) rfl (by kernel_rfl) (by kernel_rfl) (by kernel_rfl) (fun _ _ _ h => h) rfl (Or.inl ⟨by rfl, ?_⟩) (by assumption) ?_
      rotate_left
      · intro Y hY; obtain ⟨a0, a1, a2⟩ := hY; go_simp; try with_reducible rfl
      intro hSB6
      try simp only [Act.put, List.getElem_toArray, List.getElem_cons_zero, List.getElem_cons_succ, List.setIfInBounds_toArray, List.set_cons_zero, List.set_cons_succ]
      refine wpAnyG_one (i := 7) (by kernel_rfl) rfl (fun K hK => ?_)
      refine step_through _ (by rfl) _ _ _ _ _ _ (by rfl) _ _ _ (by rfl) (by rfl) (by rfl) _ (ret_calls (cT _ H3d.out)) ?_
      rintro v u7 ⟨rfl, hBu7⟩
      have Hu7 : Hid (Below w3.heap.size w3 u7) := H3d.out.trans (hBu7.mono H3d.out.size)
      refine hK.out _ _ (SB.off (by kernel_rfl) (HC.out _ Hu7.out)) (fun hSB7 => ?_)
      clear hK K hBu7
      try simp only [Act.put, List.getElem_toArray, List.getElem_cons_zero, List.getElem_cons_succ, List.setIfInBounds_toArray, List.set_cons_zero, List.set_cons_succ]
      obtain ⟨wp, hrun, hTp, hgp⟩ := (HW.out u7 Hu7.out).2.1.put f (by unfold maxLen; omega) (by unfold maxLen; omega) TR
      rw [HN.out.2, ← HN.out.1] at hTp
      have HE : Hid (TbAt wp mb (tabL ((F.take (k + 1)).map (fun r => thR F G r.2.1))) (k + 1) ∧ Below mb w wp) := ⟨hTp, grown_below (HW.out u7 Hu7.out).1 (Nat.le_of_eq HMB.out.symm) hgp⟩
      have HTW : Hid (wp.cell? ⟨bx, 0, none⟩ = some (.int .i64 kk) ∧ wp.cell? ⟨bx, 1, none⟩ = some (.string f) ∧ wp.cell? ⟨bx, 2, none⟩ = some (.string t)) := HX.out _ wp Hu7.out hgp
      refine wpAnyG_one (i := 8) (by kernel_rfl) rfl (fun K hK => ?_)
      refine step_mupd _ (by rfl) _ _ _ _ (by rfl) (by rfl) _ _ _ (by rfl) (by rfl) (by rfl) wp hrun ?_
      refine hK.out _ _ (SB.off (by kernel_rfl) HTW.out) (fun hSB8 => ?_)
      clear hK K
      try simp only [Act.put, List.getElem_toArray, List.getElem_cons_zero, List.getElem_cons_succ, List.setIfInBounds_toArray, List.set_cons_zero, List.set_cons_succ]
      refine wpAnyG_done (by kernel_rfl) ?_ _
      clear hSB hSB0 hSB1 hSB2 hSB3 hSB4 hSB5 hSB6 hSB7 hSB8 cT hrun hTp hgp
      go_wp2
      go_roundw
      case rel => exact ⟨k + 1, by omega, by simp, HE.out⟩
      case measure => simp [intOf]; omega
    · obtain rfl : k = n1 := by omega
      have i5 : ¬ (k : Int) < (k : Int) := by omega
      have hB0 : Below w.heap.size w wr := by rw [HMB.out]; exact H.out.2
      have l0' : wr.cell? ⟨b, 0, none⟩ = some (.slice a2 n2 c2) := (hB0.cell (p := ⟨b, 0, none⟩) (World.block_lt_of_cell? w _ HM.out.2.2.2.2)).trans HM.out.2.2.2.2
      have HS : Hid (TbAt wr mb (tabL (F.map (fun r => thR F G r.2.1) ++ (G.take 0).filterMap (fun r => (srcL F r.2.1).map (thR F G)))) k ∧ Below mb w wr) := by
        have h := H.out
        rw [List.take_of_length_le (by rw [HM.out.2.2.1.1]; exact Nat.le_refl _)] at h
        rw [List.take_zero, List.filterMap_nil, List.append_nil]
        exact h
      clear H hB0
      go_wp2
      clear l0'
      generalize hL1 : F.map (fun r => thR F G r.2.1) = L1 at *
      have HL1 : Hid (F.map (fun r => thR F G r.2.1) = L1) := hL1
      clear hL1
      go_loopw [44] (fun v wr => ∃ j : Nat, j ≤ n2 ∧ v = .int .i64 (j : Int) ∧ Hid (TbAt wr mb (tabL (L1 ++ (G.take j).filterMap (fun r => (srcL F r.2.1).map (thR F G)))) (k + j) ∧ Below mb w wr)) (fun v _ => n2 - (intOf v).toNat)
      case atStart => exact ⟨0, Nat.zero_le _, rfl, HS.out⟩
      case round =>
        obtain ⟨j, hj, rfl, H⟩ := hrel
        clear HS
        by_cases hjt : j < n2
        · obtain ⟨r, hr⟩ : ∃ r, G[j]? = some r := ⟨_, List.getElem?_eq_getElem (by rw [HM.out.2.2.2.1.1]; exact hjt)⟩
          obtain ⟨b1, o1, hae, hc1⟩ := (HM.out.2.2.2.1.kept (by rw [HMB.out]; exact H.out.2)).2 (by omega)
          subst hae
          obtain ⟨q0, q1, q2⟩ := hc1 j r hr
          have hrok := HM.out.2.1.ok r (List.mem_of_getElem? hr)
          obtain ⟨f, hf⟩ : ∃ f, f = mk r.2.1 := ⟨_, rfl⟩
          obtain ⟨t, ht⟩ : ∃ t, t = mk r.2.2 := ⟨_, rfl⟩
          have hfs : f.size ≤ 200 := by rw [hf, ← bs_len, bs_mk]; exact isP_len hrok.1
          rw [← hf] at q1
          rw [← ht] at q2
          have hbx : BoxR (wr.alloc (.cells #[.int .i64 r.1, .string f, .string t] 31)) wr.heap.size r.1 f t := BoxR.new wr r.1 f t
          have hW3 : Below wr.heap.size wr (wr.alloc (.cells #[.int .i64 r.1, .string f, .string t] 31)) := (Below.refl _ wr).alloc (Nat.le_refl _) _
          have hmw : mb ≤ wr.heap.size := Nat.le_trans (Nat.le_of_eq HMB.out.symm) H.out.2.size
          have HW : Hid (∀ W, Below (wr.alloc (.cells #[.int .i64 r.1, .string f, .string t] 31)).heap.size (wr.alloc (.cells #[.int .i64 r.1, .string f, .string t] 31)) W → Below mb w W ∧ TbAt W mb (tabL (L1 ++ (G.take j).filterMap (fun r => (srcL F r.2.1).map (thR F G)))) (k + j) ∧ MpAt W a F ∧ MpAt W b G) := fun W hW => by
            have hB : Below wr.heap.size wr W := hW3.trans (hW.mono hW3.size)
            have hB2 : Below mb w W := H.out.2.trans (hB.mono hmw)
            have hB3 : Below w.heap.size w W := by rw [HMB.out]; exact hB2
            exact ⟨hB2, H.out.1.below hB, HM.out.1.below hB3, HM.out.2.1.below hB3⟩
          have hfb : bs f = r.2.1 := by rw [hf, bs_mk]
          have cS := fun W hW => source_any W a F f (HW.out W hW).2.2.1 (by omega)
          rw [hfb] at cS
          have HR : Hid (G[j]? = some r) := hr
          have HBx : Hid (BoxR (wr.alloc (.cells #[.int .i64 r.1, .string f, .string t] 31)) wr.heap.size r.1 f t) := hbx
          have i7 : (j : Int) < (n2 : Int) := by omega
          have i8 : ¬ n2 ≤ j := by omega
          have hxl : ∀ x, srcL F r.2.1 = some x → x.length ≤ 500 := fun x hx => by
            have := srcR_len2 F HM.out.1.ok hx
            have := isP_len hrok.1
            omega
          generalize r.1 = kk at *
          clear hc1 hr hf ht hbx hW3 hrok H hmw hfb
          go_upto_region 12 with fail
          generalize wr.alloc (.cells #[.int .i64 kk, .string f, .string t] 31) = w3 at *
          generalize wr.heap.size = bx at *
          clear q0 q1 q2
          obtain ⟨d0, d1, d2⟩ := HBx.out.cell
          go_wp2_with fail
          refine (cS _ (Below.refl _ _)).mono ?_
          clear cS d0 d1 d2
          rintro e w4 ⟨rfl, hB4⟩
          have H4 : Hid (Below w3.heap.size w3 w4) := hB4
          clear hB4
          cases hsx : srcL F r.2.1 with
          | none =>
            simp only [Option.getD_none, Option.isSome_none]
            have HE : Hid (TbAt w4 mb (tabL (L1 ++ (G.take (j + 1)).filterMap (fun r => (srcL F r.2.1).map (thR F G)))) (k + (j + 1)) ∧ Below mb w w4) := ⟨by rw [th_step3 HR.out hsx]; exact (HW.out w4 H4.out).2.1.more (by omega), (HW.out w4 H4.out).1⟩
            clear hsx hxl
            go_wp2
            go_roundw
            case rel => exact ⟨j + 1, by omega, by simp, HE.out⟩
            case measure => simp [intOf]; omega
          | some x =>
            simp only [Option.getD_some, Option.isSome_some]
            have hx5 := hxl x hsx
            obtain ⟨X, hX⟩ : ∃ X, X = mk x := ⟨_, rfl⟩
            have hXb : bs X = x := by rw [hX, bs_mk]
            have hXs : X.size ≤ 500 := by rw [← bs_len, hXb]; exact hx5
            rw [← hX]
            have cT := fun W hW => through_any W a b F G X (HW.out W hW).2.2.1 (HW.out W hW).2.2.2 (by omega)
            rw [hXb] at cT
            have HN : Hid (tabL (L1 ++ (G.take (j + 1)).filterMap (fun r => (srcL F r.2.1).map (thR F G))) = setT (tabL (L1 ++ (G.take j).filterMap (fun r => (srcL F r.2.1).map (thR F G)))) x (thR F G x) ∧ bs X = x) := ⟨th_step2 L1 HR.out hsx, hXb⟩
            generalize thR F G x = TR at *
            clear hsx hxl hx5 hX hXb
            go_wp2_with fail
            refine (cT _ H4.out).mono ?_
            clear cT
            rintro e w5 ⟨rfl, hB5⟩
            have H5 : Hid (Below w3.heap.size w3 w5) := H4.out.trans (hB5.mono H4.out.size)
            obtain ⟨wp, hrun, hTp, hgp⟩ := (HW.out w5 H5.out).2.1.put X (by unfold maxLen; omega) (by unfold maxLen; omega) TR
            rw [HN.out.2, ← HN.out.1] at hTp
            have HE : Hid (TbAt wp mb (tabL (L1 ++ (G.take (j + 1)).filterMap (fun r => (srcL F r.2.1).map (thR F G)))) (k + (j + 1)) ∧ Below mb w wp) := ⟨hTp, grown_below (HW.out w5 H5.out).1 (Nat.le_of_eq HMB.out.symm) hgp⟩
            clear hB5 hTp hgp
            go_wp2
            go_roundw
            case rel => exact ⟨j + 1, by omega, by simp, HE.out⟩
            case measure => simp [intOf]; omega
        · obtain rfl : j = n2 := by omega
          have i7 : ¬ (j : Int) < (j : Int) := by omega
          have hTE : TbAt wr mb (tabL (L1 ++ G.filterMap (fun r => (srcL F r.2.1).map (thR F G)))) (k + j) := by
            have h := H.out.1
            rw [List.take_of_length_le (by rw [HM.out.2.2.2.1.1]; exact Nat.le_refl _)] at h
            exact h
          have hth : L1 ++ G.filterMap (fun r => (srcL F r.2.1).map (thR F G)) = thL F G := by rw [← HL1.out]; rfl
          rw [hth] at hTE
          have hof := oneForm_any wr mb (k + j) (tabL (thL F G)) hTE (by omega) (fun x r hr => by
            obtain ⟨h1, h2⟩ := tabL_mem _ x r hr
            refine ⟨h2, ?_⟩
            have := (th_len HM.out.1.ok HM.out.2.1.ok h1).1
            rw [h2] at this
            omega)
          have HE : Hid (Below mb w wr ∧ k + j ≤ 2000) := ⟨H.out.2, by omega⟩
          clear hTE H hth hn1 hn2
          go_wp2_with fail
          refine hof.mono ?_
          clear hof
          rintro e v1 ⟨ks, ad, cc, rfl, hKL, hkn, hown, hBv1⟩
          obtain ⟨ad', c2', e', hnc', hnil'⟩ := row_shapeR hown
          cases e'
          have hfl := formT_len (tabL (thL F G)) ks
          have hRu := own_rus hown rfl
          have cL := tooLong_any v1 ad (formT (tabL (thL F G)) ks).length cc (formT (tabL (thL F G)) ks) hRu (by have := HE.out.2; omega) (fun q hq => by
            obtain ⟨x, r, hr, rfl⟩ := form_mem hKL hq
            have h1 := th_len HM.out.1.ok HM.out.2.1.ok (tabL_mem _ x r hr).1
            unfold plnR
            split
            · simp only [List.length_nil]; omega
            · omega)
          have hmo := fun W hW hok hn => mapOf_any W ad (formT (tabL (thL F G)) ks).length cc (formT (tabL (thL F G)) ks) (hRu.kept hW) hnc' hn hnil' hok
          have H1 : Hid (Below mb w v1 ∧ KeyL (tabL (thL F G)) ks ∧ mb ≤ v1.heap.size) := ⟨HE.out.1.trans (hBv1.mono (Nat.le_trans (Nat.le_of_eq HMB.out.symm) HE.out.1.size)), hKL, Nat.le_trans (Nat.le_trans (Nat.le_of_eq HMB.out.symm) HE.out.1.size) hBv1.size⟩
          clear hown hKL hBv1 hkn hnc' hnil' hRu hfl
          generalize hFF : formT (tabL (thL F G)) ks = FF at *
          have HFF : Hid (formT (tabL (thL F G)) ks = FF) := hFF
          clear hFF
          have hMq := fun W hW (h : tooB FF = false) => hmo W hW (tooB_false h).1 (Nat.le_trans (tooB_false h).2 (by omega))
          clear hmo
          go_wp2_with fail
          refine cL.mono ?_
          clear cL
          rintro e v2 ⟨rfl, hBv2⟩
          have H2 : Hid (Below mb w v2 ∧ Below v1.heap.size v1 v2) := ⟨H1.out.1.trans (hBv2.mono H1.out.2.2), hBv2⟩
          clear hBv2
          cases htb : tooB FF with
          | true =>
            have HTB : Hid (tooB FF = true) := htb
            clear htb hMq
            go_wp2
            go_ret2
            exact ⟨⟨ks, H1.out.2.1, .inl ⟨by rw [HFF.out]; exact HTB.out, rfl⟩⟩, by rw [HMB.out]; exact H2.out.1⟩
          | false =>
            have HTB : Hid (tooB FF = false) := htb
            have hm2 := hMq v2 H2.out.2 htb
            clear htb hMq
            go_wp2_with fail
            refine hm2.mono ?_
            clear hm2
            rintro e v3 ⟨⟨v, rfl, hMp, _⟩, hBv3⟩
            have H3 : Hid (Below mb w v3 ∧ MpAt v3 v FF) := ⟨H2.out.1.trans (hBv3.mono (Nat.le_trans H1.out.2.2 H2.out.2.size)), hMp⟩
            clear hMp hBv3
            go_wp2
            go_ret2
            exact ⟨⟨ks, H1.out.2.1, .inr ⟨by rw [HFF.out]; exact HTB.out, v, rfl, by rw [HFF.out]; exact H3.out.2⟩⟩, by rw [HMB.out]; exact H3.out.1⟩
end Go.Proofs.YtggnglgehobglaaGreatDoor
