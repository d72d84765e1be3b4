import Derived.Test.YtggnglgehobglaaGreatDoorP27
import Derived.Test.YtggnglgehobglaaGreatDoorP13
import Derived.Test.YtggnglgehobglaaGreatDoorP15
import Derived.Test.YtggnglgehobglaaGreatDoorP17
/- The walk of Inverse (geninv.py). -/
namespace Go.Proofs.YtggnglgehobglaaGreatDoor
open Go.RowKit Go.Shelf Go.Maps

attribute [local go_sem] Oper.semAt_some

set_option maxRecDepth 20000 in
theorem step_moved (w : World) {ops : Array Oper} {o : Oper} {a : Act} {K : Act → World → Prop} {Q : Exit → Act → World → Prop} {E : Prop} (hgd : o.guard = none) (x y : Nat) (t1 t2 : TypeId)
    (ho : o.op = .call { callee := .value (.func 44), args := #[.tmp x, .tmp y], argTypes := #[t1, t2] }) (vx vy : Value) (hx : a.tmps[x]?.getD undef = vx) (hy : a.tmps[y]?.getD undef = vy) (R : Value → World → Prop)
    (hc : Calls Tryz.prog 44 #[vx, vy] w fun e w' => ∃ v, e = .returned v ∧ R v w') (hK : ∀ v w', R v w' → K (a.put o.dst v) w') :
    if Region.wanted o (yielded ops a.tmps) = true then Oper.wp Tryz.prog o a w K Q else E := by
  have hw : Region.wanted o (yielded ops a.tmps) = true := by simp [Region.wanted, hgd]
  rw [if_pos hw]
  unfold Oper.wp execOp
  simp [ho, resolve, invoke, go_sem, hx, hy]
  refine hc.mono ?_
  rintro e w' ⟨v, rfl, hR⟩
  have := hK v w' hR
  simpa [go_sem] using this
set_option maxRecDepth 20000 in
theorem step_mupd (w : World) {ops : Array Oper} {o : Oper} {a : Act} {K : Act → World → Prop} {Q : Exit → Act → World → Prop} {E : Prop} (hgd : o.guard = none) (x y z : Nat) (t1 : TypeId)
    (ho : o.op = .mapUpdate t1 (.tmp x) (.tmp y) (.tmp z)) (hd : o.dst = none) (vx vy vz : Value) (hx : a.tmps[x]?.getD undef = vx) (hy : a.tmps[y]?.getD undef = vy) (hz : a.tmps[z]?.getD undef = vz) (w2 : World)
    (hrun : (Instr.mapUpdate t1 vx vy vz).run Tryz.prog w = .ok () w2) (hK : K a w2) :
    if Region.wanted o (yielded ops a.tmps) = true then Oper.wp Tryz.prog o a w K Q else E := by
  have hw : Region.wanted o (yielded ops a.tmps) = true := by simp [Region.wanted, hgd]
  rw [if_pos hw]
  unfold Oper.wp execOp
  simp [ho, go_sem, hx, hy, hz, hrun, hd]
  simpa [go_sem] using hK
theorem upr_ok {F : List Ru} (h : FOk F) (l : List UInt8) : isP (uprT (tabL F) l).2.1 = true ∧ isP (uprT (tabL F) l).2.2 = true := by
  unfold uprT
  rcases lastT_mem (tabL F) (begL l) with e | ⟨k, _, e⟩
  · rw [e]; exact ⟨isP_nil, isP_nil⟩
  · exact h _ (tabL_mem F k _ e).1
theorem tgt_mk (r : Ru) : tgt r.1 (mk r.2.1) (mk r.2.2) = mk (tgtR r) := by
  unfold tgt tgtR
  split <;> rfl
theorem bk_step_some {F : List Ru} {k : Nat} {r q : Ru} (hr : F[k]? = some r) (hq : bkR F r = some q) : tabL ((F.take (k + 1)).filterMap (bkR F)) = setT (tabL ((F.take k).filterMap (bkR F))) q.2.1 q := by
  obtain ⟨hk, rfl⟩ := List.getElem?_eq_some_iff.1 hr
  rw [List.take_succ_eq_append_getElem hk, List.filterMap_append, show List.filterMap (bkR F) [F[k]] = [q] by simp [hq], tabL_snoc]
theorem bk_step_none {F : List Ru} {k : Nat} {r : Ru} (hr : F[k]? = some r) (hq : bkR F r = none) : (F.take (k + 1)).filterMap (bkR F) = (F.take k).filterMap (bkR F) := by
  obtain ⟨hk, rfl⟩ := List.getElem?_eq_some_iff.1 hr
  rw [List.take_succ_eq_append_getElem hk, List.filterMap_append, show List.filterMap (bkR F) [F[k]] = [] by simp [hq], List.append_nil]
theorem TbAt.more {w : World} {b : Nat} {g : Tb} {n m : Nat} (h : TbAt w b g n) (hm : n ≤ m) : TbAt w b g m := by
  obtain ⟨M, h1, h2, h3⟩ := h
  exact ⟨M, h1, Nat.le_trans h2 hm, h3⟩
theorem grown_below {mb : Nat} {w W w2 : World} (hB : Below mb w W) (h1 : mb ≤ w.heap.size) (hg : W.grownBy w2 (some mb)) : Below mb w w2 :=
  ⟨hg.os.trans hB.os, hg.tape.trans hB.tape, hg.output.trans hB.output, Nat.le_trans hB.size hg.size, fun z hz => (hg.block z (Nat.lt_of_lt_of_le (Nat.lt_of_lt_of_le hz h1) hB.size) (fun e => by have := Option.some.inj e; omega)).trans (hB.block z hz)⟩
set_option maxRecDepth 100000 in
set_option maxHeartbeats 4000000 in
theorem inverse_any (w : World) (m : Nat) (F : List Ru) (hM : MpAt w m F) (hU : FormU F) :
    Calls Tryz.prog 18 #[.pointer (some ⟨m, 0, none⟩)] w fun e w' => ∃ v ks, e = .returned (.pointer (some ⟨v, 0, none⟩)) ∧ MpAt w' v (formT (tabL (bkL F)) ks) ∧ KeyL (tabL (bkL F)) ks ∧ Below w.heap.size w w' := by
  obtain ⟨a, n, c, b, c0, c1, h1, h2, h3, h4⟩ := hM.ex
  have HM : Hid (FOk F ∧ FormU F ∧ Rus w a n F ∧ TbAt w b (tabL F) n ∧ w.cell? ⟨m, 1, none⟩ = some (.map (some b))) := ⟨hM.ok, hU, h1, h3, c1⟩
  have hmm := @run_makeMap Tryz.prog
  have hmx : Tryz.prog.follows .mixedOrders = true := by kernel_rfl
  have H0 : Hid (TbAt (w.alloc (.map #[] 0)) w.heap.size (fun _ => none) 0 ∧ Below w.heap.size w (w.alloc (.map #[] 0))) := ⟨TbAt.new w, (Below.refl _ w).alloc (Nat.le_refl _) _⟩
  have hn1 := h4.1
  have c0' : (w.alloc (.map #[] 0)).cell? ⟨m, 0, none⟩ = some (.slice a n c) := (H0.out.2.cell (p := ⟨m, 0, none⟩) (World.block_lt_of_cell? w _ c0)).trans c0
  clear hM hU h1 h2 h3 h4 c1 c0
  go_enter Tryz.func18, Tryz.ntmps18
  go_wp2
  generalize w.alloc (.map #[] 0) = w1 at *
  generalize hmb : w.heap.size = mb at *
  have HMB : Hid (w.heap.size = mb) := hmb
  clear hmm hmb c0'
  go_loopw [15] (fun v wr => ∃ k : Nat, k ≤ n ∧ v = .int .i64 (k : Int) ∧ Hid (TbAt wr mb (tabL ((F.take k).filterMap (bkR F))) k ∧ Below mb w wr)) (fun v _ => n - (intOf v).toNat)
  case atStart => exact ⟨0, Nat.zero_le _, rfl, H0.out⟩
  case round =>
    obtain ⟨k, hk, rfl, H⟩ := hrel
    by_cases hlt : k < n
    · obtain ⟨r, hr⟩ : ∃ r, F[k]? = some r := ⟨_, List.getElem?_eq_getElem (by rw [HM.out.2.2.1.1]; exact hlt)⟩
      obtain ⟨b1, o1, hae, hc1⟩ := (HM.out.2.2.1.kept (by rw [HMB.out]; exact H.out.2)).2 (by omega)
      subst hae
      obtain ⟨q0, q1, q2⟩ := hc1 k r hr
      have hrok := HM.out.1 r (List.mem_of_getElem? hr)
      obtain ⟨f, hf⟩ : ∃ f, f = mk r.2.1 := ⟨_, rfl⟩
      obtain ⟨t, ht⟩ : ∃ t, t = mk r.2.2 := ⟨_, rfl⟩
      have hfs : f.size ≤ 200 := by rw [hf, ← bs_len, bs_mk]; exact isP_len hrok.1
      have hts : t.size ≤ 200 := by rw [ht, ← bs_len, bs_mk]; exact isP_len hrok.2
      rw [← hf] at q1
      rw [← ht] at q2
      have hbx : BoxR (wr.alloc (.cells #[.int .i64 r.1, .string f, .string t] 31)) wr.heap.size r.1 f t := BoxR.new wr r.1 f t
      have hW3 : Below wr.heap.size wr (wr.alloc (.cells #[.int .i64 r.1, .string f, .string t] 31)) := (Below.refl _ wr).alloc (Nat.le_refl _) _
      have hmw : mb ≤ wr.heap.size := Nat.le_trans (Nat.le_of_eq HMB.out.symm) H.out.2.size
      have HC : Hid (∀ W, Below (wr.alloc (.cells #[.int .i64 r.1, .string f, .string t] 31)).heap.size (wr.alloc (.cells #[.int .i64 r.1, .string f, .string t] 31)) W → W.cell? ⟨wr.heap.size, 0, none⟩ = some (.int .i64 r.1) ∧ W.cell? ⟨wr.heap.size, 1, none⟩ = some (.string f) ∧ W.cell? ⟨wr.heap.size, 2, none⟩ = some (.string t)) := fun W hW => (hbx.below hW hbx.lt).cell
      have HW : Hid (∀ W, Below (wr.alloc (.cells #[.int .i64 r.1, .string f, .string t] 31)).heap.size (wr.alloc (.cells #[.int .i64 r.1, .string f, .string t] 31)) W → Below mb w W ∧ TbAt W mb (tabL ((F.take k).filterMap (bkR F))) k ∧ TbAt W b (tabL F) n ∧ W.cell? ⟨m, 1, none⟩ = some (.map (some b))) := fun W hW => by
        have hB : Below wr.heap.size wr W := hW3.trans (hW.mono hW3.size)
        have hB2 : Below mb w W := H.out.2.trans (hB.mono hmw)
        have hB3 : Below w.heap.size w W := by rw [HMB.out]; exact hB2
        exact ⟨hB2, H.out.1.below hB, HM.out.2.2.2.1.below hB3, (hB3.cell (p := ⟨m, 1, none⟩) (World.block_lt_of_cell? w _ HM.out.2.2.2.2)).trans HM.out.2.2.2.2⟩
      have HD : Hid (∀ W, Below (wr.alloc (.cells #[.int .i64 r.1, .string f, .string t] 31)).heap.size (wr.alloc (.cells #[.int .i64 r.1, .string f, .string t] 31)) W → W.cell? ⟨wr.heap.size, 0, none⟩ = some (.int .i64 r.1) ∧ W.cell? ⟨wr.heap.size, 1, none⟩ = some (.string f) ∧ W.cell? ⟨wr.heap.size, 2, none⟩ = some (.string t) ∧ W.cell? ⟨m, 1, none⟩ = some (.map (some b))) := fun W hW => ⟨(HC.out W hW).1, (HC.out W hW).2.1, (HC.out W hW).2.2, (HW.out W hW).2.2.2⟩
      have HX : Hid (∀ W W2, Below (wr.alloc (.cells #[.int .i64 r.1, .string f, .string t] 31)).heap.size (wr.alloc (.cells #[.int .i64 r.1, .string f, .string t] 31)) W → W.grownBy W2 (some mb) → W2.cell? ⟨wr.heap.size, 0, none⟩ = some (.int .i64 r.1) ∧ W2.cell? ⟨wr.heap.size, 1, none⟩ = some (.string f) ∧ W2.cell? ⟨wr.heap.size, 2, none⟩ = some (.string t)) := fun W W2 hW hg => by
        have hb2 := hbx.below hW hbx.lt
        have hb3 : BoxR W2 wr.heap.size r.1 f t := (hg.block _ hb2.lt (fun e => by have := Option.some.inj e; have := H.out.1.lt; omega)).trans hb2
        exact hb3.cell
      have hle := fun W => lets_any r.1 f t W
      have hta := fun W => target_any r.1 f t W
      have i5 : (k : Int) < (n : Int) := by omega
      have i6 : ¬ n ≤ k := by omega
      have HR : Hid (F[k]? = some r ∧ f = mk r.2.1 ∧ t = mk r.2.2) := ⟨hr, hf, ht⟩
      have HT : Hid (tgt r.1 f t = mk (tgtR r) ∧ (tgtR r).length ≤ 200) := ⟨by rw [hf, ht]; exact tgt_mk r, isP_len (tgtR_isP hrok)⟩
      have HK : Hid (∃ kk, r.1 = kk) := ⟨_, rfl⟩
      generalize hkk : r.1 = kk at *
      have HKK : Hid (r.1 = kk) := hkk
      clear hc1 hr hf ht hbx hW3 hrok H hkk HK hmw
      go_upto_region 7 with fail
      generalize wr.alloc (.cells #[.int .i64 kk, .string f, .string t] 31) = w3 at *
      generalize wr.heap.size = bx at *
      have H3 : Hid (Below w3.heap.size w3 w3) := Below.refl _ _
      obtain ⟨d0, d1, d2⟩ := HC.out _ H3.out
      clear q0 q1 q2
      go_wp2_with fail
      refine (hle _).mono ?_
      clear hle d0 d1 d2
      rintro e w4 ⟨rfl, hB4⟩
      have H4 : Hid (Below w3.heap.size w3 w4) := hB4
      clear hB4 H3
      cases hl : letsK kk with
      | true =>
        have hmo := fun W => move_any (tgt kk f t) f W
        have HN : Hid (tabL ((F.take (k + 1)).filterMap (bkR F)) = setT (tabL ((F.take k).filterMap (bkR F))) (tgtR r) (3, tgtR r, r.2.1)) := bk_step_some (q := (3, tgtR r, r.2.1)) HR.out.1 (by unfold bkR; rw [HKK.out, if_pos hl])
        have HRV : Hid (ruV (3, tgtR r, r.2.1) = rv 3 (tgt kk f t) f) := by show _ = _; rw [HT.out.1, HR.out.2.1]
        have HTB : Hid (bs (tgt kk f t) = tgtR r) := by show _ = _; rw [HT.out.1, bs_mk]
        generalize tgt kk f t = tg at *
        clear hl
        go_upto_region 8 with fail
        have H3d : Hid (Below w3.heap.size w3 w4.drew) := H4.out.trans ⟨rfl, rfl, rfl, Nat.le_refl _, fun _ _ => rfl⟩
        refine wp_region_G (S := SB 1000 (fun _ => True) (fun W => W.cell? ⟨bx, 0, none⟩ = some (.int .i64 kk) ∧ W.cell? ⟨bx, 1, none⟩ = some (.string f) ∧ W.cell? ⟨bx, 2, none⟩ = some (.string t))) hmx ?_
        have hSB : SB 1000 (fun _ => True) (fun W => W.cell? ⟨bx, 0, none⟩ = some (.int .i64 kk) ∧ W.cell? ⟨bx, 1, none⟩ = some (.string f) ∧ W.cell? ⟨bx, 2, none⟩ = some (.string t)) (Array.replicate 9 false) w4.drew := SB.off (by kernel_rfl) (HC.out _ H3d.out)
        refine wpAnyG_takeP (i := 0) (v := ?_) rfl (by kernel_rfl) (by kernel_rfl) (by kernel_rfl) (fun _ _ _ h => h) rfl (Or.inl ⟨by rfl, ?_⟩) (by assumption) ?_
        rotate_left
        · intro Y hY; obtain ⟨a0, a1, a2⟩ := hY; go_simp; try with_reducible rfl
        intro hSB0
        try simp only [Act.put, List.getElem_toArray, List.getElem_cons_zero, List.setIfInBounds_toArray, List.set_cons_zero, List.set_cons_succ]
        refine wpAnyG_takeP (i := 1) (v := ?_) rfl (by kernel_rfl) (by kernel_rfl) (by kernel_rfl) (fun _ _ _ h => h) rfl (Or.inl ⟨by rfl, ?_⟩) (by assumption) ?_
        rotate_left
        · intro Y hY; obtain ⟨a0, a1, a2⟩ := hY; go_simp; try with_reducible rfl
        intro hSB1
        try simp only [Act.put, List.getElem_toArray, List.getElem_cons_zero, List.getElem_cons_succ, List.setIfInBounds_toArray, List.set_cons_zero, List.set_cons_succ]
        refine wpAnyG_takeP (i := 3) (v := ?_) rfl (by kernel_rfl) (by kernel_rfl) (by kernel_rfl) (fun _ _ _ h => h) rfl (Or.inl ⟨by rfl, ?_⟩) (by assumption) ?_
        rotate_left
        · intro Y hY; obtain ⟨a0, a1, a2⟩ := hY; go_simp; try with_reducible rfl
        intro hSB3
        try simp only [Act.put, List.getElem_toArray, List.getElem_cons_zero, List.getElem_cons_succ, List.setIfInBounds_toArray, List.set_cons_zero, List.set_cons_succ]
        refine wpAnyG_takeP (i := 5) (v := ?_) rfl (by kernel_rfl) (by kernel_rfl) (by kernel_rfl) (fun _ _ _ h => h) rfl (Or.inl ⟨by rfl, ?_⟩) (by assumption) ?_
        rotate_left
        · intro Y hY; obtain ⟨a0, a1, a2⟩ := hY; go_simp; try with_reducible rfl
        intro hSB5
        try simp only [Act.put, List.getElem_toArray, List.getElem_cons_zero, List.getElem_cons_succ, List.setIfInBounds_toArray, List.set_cons_zero, List.set_cons_succ]
        refine wpAnyG_takeP (i := 6) (v := ?_) rfl (by kernel_rfl) (by kernel_rfl) (by kernel_rfl) (fun _ _ _ h => h) rfl (Or.inl ⟨by rfl, ?_⟩) (by assumption) ?_
        rotate_left
        · intro Y hY; obtain ⟨a0, a1, a2⟩ := hY; go_simp; try with_reducible rfl
        intro hSB6
        try simp only [Act.put, List.getElem_toArray, List.getElem_cons_zero, List.getElem_cons_succ, List.setIfInBounds_toArray, List.set_cons_zero, List.set_cons_succ]
        refine wpAnyG_one (i := 2) (by kernel_rfl) rfl (fun K hK => ?_)
        refine step_target _ (by rfl) _ _ (by rfl) _ (by rfl) _ (ret_calls (hta _)) ?_
        rintro v u2 ⟨rfl, hBu2⟩
        have Hu2 : Hid (Below w3.heap.size w3 u2) := H3d.out.trans (hBu2.mono H3d.out.size)
        refine hK.out _ _ (SB.off (by kernel_rfl) (HC.out _ Hu2.out)) (fun hSB2 => ?_)
        clear hK K hBu2
        try simp only [Act.put, List.getElem_toArray, List.getElem_cons_zero, List.getElem_cons_succ, List.setIfInBounds_toArray, List.set_cons_zero, List.set_cons_succ]
        refine wpAnyG_one (i := 4) (by kernel_rfl) rfl (fun K hK => ?_)
        refine step_target _ (by rfl) _ _ (by rfl) _ (by rfl) _ (ret_calls (hta _)) ?_
        rintro v u4 ⟨rfl, hBu4⟩
        have Hu4 : Hid (Below w3.heap.size w3 u4) := Hu2.out.trans (hBu4.mono Hu2.out.size)
        refine hK.out _ _ (SB.off (by kernel_rfl) (HC.out _ Hu4.out)) (fun hSB4 => ?_)
        clear hK K hBu4
        try simp only [Act.put, List.getElem_toArray, List.getElem_cons_zero, List.getElem_cons_succ, List.setIfInBounds_toArray, List.set_cons_zero, List.set_cons_succ]
        refine wpAnyG_one (i := 7) (by kernel_rfl) rfl (fun K hK => ?_)
        refine step_move _ (by rfl) _ _ _ _ (by rfl) _ _ (by rfl) (by rfl) _ (ret_calls (hmo _)) ?_
        rintro v u7 ⟨rfl, hBu7⟩
        have Hu7 : Hid (Below w3.heap.size w3 u7) := Hu4.out.trans (hBu7.mono Hu4.out.size)
        refine hK.out _ _ (SB.off (by kernel_rfl) (HC.out _ Hu7.out)) (fun hSB7 => ?_)
        clear hK K hBu7
        try simp only [Act.put, List.getElem_toArray, List.getElem_cons_zero, List.getElem_cons_succ, List.setIfInBounds_toArray, List.set_cons_zero, List.set_cons_succ]
        obtain ⟨wp, hrun, hTp, hgp⟩ := (HW.out u7 Hu7.out).2.1.put tg (by rw [← bs_len, HTB.out]; have := HT.out.2; unfold maxLen; omega) (by unfold maxLen; omega) (3, tgtR r, r.2.1)
        rw [HRV.out] at hrun
        rw [HTB.out, ← HN.out] at hTp
        have HE : Hid (TbAt wp mb (tabL ((F.take (k + 1)).filterMap (bkR F))) (k + 1) ∧ Below mb w wp) := ⟨hTp, grown_below (HW.out u7 Hu7.out).1 (Nat.le_of_eq HMB.out.symm) hgp⟩
        have HTW : Hid (wp.cell? ⟨bx, 0, none⟩ = some (.int .i64 kk) ∧ wp.cell? ⟨bx, 1, none⟩ = some (.string f) ∧ wp.cell? ⟨bx, 2, none⟩ = some (.string t)) := HX.out _ wp Hu7.out hgp
        refine wpAnyG_one (i := 8) (by kernel_rfl) rfl (fun K hK => ?_)
        refine step_mupd _ (by rfl) _ _ _ _ (by rfl) (by rfl) _ _ _ (by rfl) (by rfl) (by rfl) wp hrun ?_
        refine hK.out _ _ (SB.off (by kernel_rfl) HTW.out) (fun hSB8 => ?_)
        clear hK K
        try simp only [Act.put, List.getElem_toArray, List.getElem_cons_zero, List.getElem_cons_succ, List.setIfInBounds_toArray, List.set_cons_zero, List.set_cons_succ]
        refine wpAnyG_done (by kernel_rfl) ?_ _
        clear hSB hSB0 hSB1 hSB2 hSB3 hSB4 hSB5 hSB6 hSB7 hSB8 hta hmo hrun hTp hgp
        go_wp2
        go_roundw
        case rel => exact ⟨k + 1, by omega, by simp, HE.out⟩
        case measure => simp [intOf]; omega
      | false =>
        have hup := fun W hW => upper_any W b (tabL F) n f (HW.out W hW).2.2.1 (by unfold maxLen; omega)
        have hfb : bs f = r.2.1 := by rw [HR.out.2.1, bs_mk]
        rw [hfb] at hup
        have hUok := upr_ok HM.out.1 r.2.1
        have hmR := movB_R (uprT (tabL F) r.2.1) f
        rw [hfb] at hmR
        have HBK : Hid (bkR F r = if isP (movR (uprT (tabL F) r.2.1) r.2.1) = true then some (2, movR (uprT (tabL F) r.2.1) r.2.1, []) else none) := by show _ = _; unfold bkR; rw [HKK.out, if_neg (by rw [hl]; decide)]
        have hmM : movR (uprT (tabL F) r.2.1) r.2.1 = joinR (tgtR (uprT (tabL F) r.2.1)) ((restP r.2.1 (uprT (tabL F) r.2.1).2.1).getD []) := rfl
        rw [← hmM] at hmR
        have hjl : (movR (uprT (tabL F) r.2.1) r.2.1).length ≤ 1000 := by
          rw [hmM]
          have h1 := joinR_len (tgtR (uprT (tabL F) r.2.1)) ((restP r.2.1 (uprT (tabL F) r.2.1).2.1).getD [])
          have h2 := isP_len (tgtR_isP hUok)
          have h3 := restP_getD r.2.1 (uprT (tabL F) r.2.1).2.1
          have h4 : r.2.1.length ≤ 200 := by rw [← hfb, bs_len]; exact hfs
          omega
        clear hmM
        generalize hmv0 : movR (uprT (tabL F) r.2.1) r.2.1 = mv at *
        generalize uprT (tabL F) r.2.1 = U at *
        obtain ⟨uk, uf, ut⟩ := U
        simp only at hUok hmR
        obtain ⟨uf', huf'⟩ : ∃ uf', uf' = mk uf := ⟨_, rfl⟩
        obtain ⟨ut', hut'⟩ : ∃ ut', ut' = mk ut := ⟨_, rfl⟩
        rw [← huf', ← hut'] at hmR
        rw [show ruV (uk, uf, ut) = rv uk uf' ut' by rw [huf', hut']] at hup
        have hmv := fun W => moved_any uk uf' ut' f W (by rw [huf', ← bs_len, bs_mk]; have := isP_len hUok.1; omega) (by rw [hut', ← bs_len, bs_mk]; have := isP_len hUok.2; omega) (by omega) (by rw [huf', bs_mk]; exact right_path uf hUok.1)
        rw [hmR] at hmv
        obtain ⟨mv', hmv'⟩ : ∃ mv', mv' = mk mv := ⟨_, rfl⟩
        rw [← hmv'] at hmv
        have hmb' : bs mv' = mv := by rw [hmv', bs_mk]
        have hms : mv'.size ≤ 1000 := by rw [← bs_len, hmb']; exact hjl
        have HMV : Hid (bs mv' = mv ∧ mv' = mk mv) := ⟨hmb', hmv'⟩
        have hip := fun W => misPath_any mv' W (by unfold maxLen; omega)
        have hdr := fun W => drop_any mv' W
        rw [hmb'] at hip
        clear hmR hjl hmv0 huf' hut' hmv' hmb' hUok hfb hta hl
        go_upto_region 9 with fail
        have H3d : Hid (Below w3.heap.size w3 w4.drew) := H4.out.trans ⟨rfl, rfl, rfl, Nat.le_refl _, fun _ _ => rfl⟩
        refine wp_region_G (S := SB 1000 (fun _ => True) (fun W => W.cell? ⟨bx, 0, none⟩ = some (.int .i64 kk) ∧ W.cell? ⟨bx, 1, none⟩ = some (.string f) ∧ W.cell? ⟨bx, 2, none⟩ = some (.string t) ∧ W.cell? ⟨m, 1, none⟩ = some (.map (some b)))) hmx ?_
        have hSB : SB 1000 (fun _ => True) (fun W => W.cell? ⟨bx, 0, none⟩ = some (.int .i64 kk) ∧ W.cell? ⟨bx, 1, none⟩ = some (.string f) ∧ W.cell? ⟨bx, 2, none⟩ = some (.string t) ∧ W.cell? ⟨m, 1, none⟩ = some (.map (some b))) (Array.replicate 11 false) w4.drew := SB.off (by kernel_rfl) (HD.out _ H3d.out)
        refine wpAnyG_takeP (i := 0) (v := ?_) rfl (by kernel_rfl) (by kernel_rfl) (by kernel_rfl) (fun _ _ _ h => h) rfl (Or.inl ⟨by rfl, ?_⟩) (by assumption) ?_
        rotate_left
        · intro Y hY; obtain ⟨a0, a1, a2, a3⟩ := hY; go_simp; try with_reducible rfl
        intro hSB0
        try simp only [Act.put, List.getElem_toArray, List.getElem_cons_zero, List.setIfInBounds_toArray, List.set_cons_zero, List.set_cons_succ]
        refine wpAnyG_takeP (i := 1) (v := ?_) rfl (by kernel_rfl) (by kernel_rfl) (by kernel_rfl) (fun _ _ _ h => h) rfl (Or.inl ⟨by rfl, ?_⟩) (by assumption) ?_
        rotate_left
        · intro Y hY; obtain ⟨a0, a1, a2, a3⟩ := hY; go_simp; try with_reducible rfl
        intro hSB1
        try simp only [Act.put, List.getElem_toArray, List.getElem_cons_zero, List.getElem_cons_succ, List.setIfInBounds_toArray, List.set_cons_zero, List.set_cons_succ]
        refine wpAnyG_takeP (i := 2) (v := ?_) rfl (by kernel_rfl) (by kernel_rfl) (by kernel_rfl) (fun _ _ _ h => h) rfl (Or.inl ⟨by rfl, ?_⟩) (by assumption) ?_
        rotate_left
        · intro Y hY; obtain ⟨a0, a1, a2, a3⟩ := hY; go_simp; try with_reducible rfl
        intro hSB2
        try simp only [Act.put, List.getElem_toArray, List.getElem_cons_zero, List.getElem_cons_succ, List.setIfInBounds_toArray, List.set_cons_zero, List.set_cons_succ]
        refine wpAnyG_takeP (i := 3) (v := ?_) rfl (by kernel_rfl) (by kernel_rfl) (by kernel_rfl) (fun _ _ _ h => h) rfl (Or.inl ⟨by rfl, ?_⟩) (by assumption) ?_
        rotate_left
        · intro Y hY; obtain ⟨a0, a1, a2, a3⟩ := hY; go_simp; try with_reducible rfl
        intro hSB3
        try simp only [Act.put, List.getElem_toArray, List.getElem_cons_zero, List.getElem_cons_succ, List.setIfInBounds_toArray, List.set_cons_zero, List.set_cons_succ]
        refine wpAnyG_takeP (i := 4) (v := ?_) rfl (by kernel_rfl) (by kernel_rfl) (by kernel_rfl) (fun _ _ _ h => h) rfl (Or.inl ⟨by rfl, ?_⟩) (by assumption) ?_
        rotate_left
        · intro Y hY; obtain ⟨a0, a1, a2, a3⟩ := hY; go_simp; try with_reducible rfl
        intro hSB4
        try simp only [Act.put, List.getElem_toArray, List.getElem_cons_zero, List.getElem_cons_succ, List.setIfInBounds_toArray, List.set_cons_zero, List.set_cons_succ]
        refine wpAnyG_takeP (i := 5) (v := ?_) rfl (by kernel_rfl) (by kernel_rfl) (by kernel_rfl) (fun _ _ _ h => h) rfl (Or.inl ⟨by rfl, ?_⟩) (by assumption) ?_
        rotate_left
        · intro Y hY; obtain ⟨a0, a1, a2, a3⟩ := hY; go_simp; try with_reducible rfl
        intro hSB5
        try simp only [Act.put, List.getElem_toArray, List.getElem_cons_zero, List.getElem_cons_succ, List.setIfInBounds_toArray, List.set_cons_zero, List.set_cons_succ]
        refine wpAnyG_takeP (i := 7) (v := ?_) rfl (by kernel_rfl) (by kernel_rfl) (by kernel_rfl) (fun _ _ _ h => h) rfl (Or.inl ⟨by rfl, ?_⟩) (by assumption) ?_
        rotate_left
        · intro Y hY; obtain ⟨a0, a1, a2, a3⟩ := hY; go_simp; try with_reducible rfl
        intro hSB7
        try simp only [Act.put, List.getElem_toArray, List.getElem_cons_zero, List.getElem_cons_succ, List.setIfInBounds_toArray, List.set_cons_zero, List.set_cons_succ]
        refine wpAnyG_takeP (i := 8) (v := ?_) rfl (by kernel_rfl) (by kernel_rfl) (by kernel_rfl) (fun _ _ _ h => h) rfl (Or.inl ⟨by rfl, ?_⟩) (by assumption) ?_
        rotate_left
        · intro Y hY; obtain ⟨a0, a1, a2, a3⟩ := hY; go_simp; try with_reducible rfl
        intro hSB8
        try simp only [Act.put, List.getElem_toArray, List.getElem_cons_zero, List.getElem_cons_succ, List.setIfInBounds_toArray, List.set_cons_zero, List.set_cons_succ]
        refine wpAnyG_one (i := 6) (by kernel_rfl) rfl (fun K hK => ?_)
        refine step_upper _ (by rfl) _ _ _ _ (by rfl) _ _ (by rfl) (by rfl) _ (ret_calls (hup _ H3d.out)) ?_
        rintro v u6 ⟨rfl, hBu6⟩
        have Hu6 : Hid (Below w3.heap.size w3 u6) := H3d.out.trans (hBu6.mono H3d.out.size)
        refine hK.out _ _ (SB.off (by kernel_rfl) (HD.out _ Hu6.out)) (fun hSB6 => ?_)
        clear hK K hBu6
        try simp only [Act.put, List.getElem_toArray, List.getElem_cons_zero, List.getElem_cons_succ, List.setIfInBounds_toArray, List.set_cons_zero, List.set_cons_succ]
        refine wpAnyG_one (i := 9) (by kernel_rfl) rfl (fun K hK => ?_)
        refine step_moved _ (by rfl) _ _ _ _ (by rfl) _ _ (by rfl) (by rfl) _ (ret_calls (hmv _)) ?_
        rintro v u9 ⟨rfl, hBu9⟩
        have Hu9 : Hid (Below w3.heap.size w3 u9) := Hu6.out.trans (hBu9.mono Hu6.out.size)
        refine hK.out _ _ (SB.off (by kernel_rfl) (HD.out _ Hu9.out)) (fun hSB9 => ?_)
        clear hK K hBu9
        try simp only [Act.put, List.getElem_toArray, List.getElem_cons_zero, List.getElem_cons_succ, List.setIfInBounds_toArray, List.set_cons_zero, List.set_cons_succ]
        refine wpAnyG_takeP (i := 10) (v := ?_) rfl (by kernel_rfl) (by kernel_rfl) (by kernel_rfl) (fun _ _ _ h => h) rfl (Or.inl ⟨by rfl, ?_⟩) (by assumption) ?_
        rotate_left
        · intro Y hY; obtain ⟨a0, a1, a2, a3⟩ := hY; go_simp; try with_reducible rfl
        intro hSB10
        try simp only [Act.put, List.getElem_toArray, List.getElem_cons_zero, List.getElem_cons_succ, List.setIfInBounds_toArray, List.set_cons_zero, List.set_cons_succ]
        refine wpAnyG_done (by kernel_rfl) ?_ _
        clear hSB hSB0 hSB1 hSB2 hSB3 hSB4 hSB5 hSB6 hSB7 hSB8 hSB9 hSB10 hup hmv
        go_wp2_with fail
        refine (hip _).mono ?_
        clear hip
        rintro e v1 ⟨rfl, hBv1⟩
        have Hv1 : Hid (Below w3.heap.size w3 v1) := Hu9.out.trans (hBv1.mono Hu9.out.size)
        clear hBv1
        cases hpp : isP mv with
        | false =>
          have HE : Hid (TbAt v1 mb (tabL ((F.take (k + 1)).filterMap (bkR F))) (k + 1) ∧ Below mb w v1) := ⟨by rw [bk_step_none HR.out.1 (by rw [HBK.out, if_neg (by rw [hpp]; decide)])]; exact (HW.out v1 Hv1.out).2.1.more (by omega), (HW.out v1 Hv1.out).1⟩
          clear hpp hdr
          go_wp2
          go_roundw
          case rel => exact ⟨k + 1, by omega, by simp, HE.out⟩
          case measure => simp [intOf]; omega
        | true =>
          have HN : Hid (tabL ((F.take (k + 1)).filterMap (bkR F)) = setT (tabL ((F.take k).filterMap (bkR F))) mv (2, mv, [])) := bk_step_some (q := (2, mv, [])) HR.out.1 (by rw [HBK.out, if_pos hpp])
          clear hpp
          go_wp2_with fail
          refine (hdr _).mono ?_
          clear hdr
          rintro e v2 ⟨rfl, hBv2⟩
          have Hv2 : Hid (Below w3.heap.size w3 v2) := Hv1.out.trans (hBv2.mono Hv1.out.size)
          obtain ⟨wp, hrun, hTp, hgp⟩ := (HW.out v2 Hv2.out).2.1.put mv' (by unfold maxLen; omega) (by unfold maxLen; omega) (2, mv, [])
          rw [show ruV (2, mv, []) = rv 2 mv' ⟨#[]⟩ by rw [HMV.out.2]; rfl] at hrun
          rw [HMV.out.1, ← HN.out] at hTp
          have HE : Hid (TbAt wp mb (tabL ((F.take (k + 1)).filterMap (bkR F))) (k + 1) ∧ Below mb w wp) := ⟨hTp, grown_below (HW.out v2 Hv2.out).1 (Nat.le_of_eq HMB.out.symm) hgp⟩
          clear hBv2 hTp hgp
          go_wp2
          go_roundw
          case rel => exact ⟨k + 1, by omega, by simp, HE.out⟩
          case measure => simp [intOf]; omega
    · obtain rfl : k = n := by omega
      have i5 : ¬ (k : Int) < (k : Int) := by omega
      have hTE : TbAt wr mb (tabL (bkL F)) k := by
        have h := H.out.1
        rw [List.take_of_length_le (by rw [HM.out.2.2.1.1]; exact Nat.le_refl _)] at h
        exact h
      have hbok := bk_fOk HM.out.1 HM.out.2.1
      have hof := oneForm_any wr mb k (tabL (bkL F)) hTE (by omega) (fun x r hr => by
        obtain ⟨h1, h2⟩ := tabL_mem _ x r hr
        refine ⟨h2, ?_⟩
        have := isP_len (hbok r h1).1
        rw [h2] at this
        omega)
      have HE : Hid (Below mb w wr ∧ FOk (bkL F) ∧ k ≤ 1000) := ⟨H.out.2, hbok, hn1⟩
      clear hTE hbok H hn1
      go_wp2_with fail
      refine hof.mono ?_
      clear hof
      rintro e v1 ⟨ks, ad, cc, rfl, hKL, hkn, hown, hBv1⟩
      obtain ⟨ad', c2, e', hnc', hnil'⟩ := row_shapeR hown
      cases e'
      have hmo := mapOf_any v1 ad (formT (tabL (bkL F)) ks).length cc (formT (tabL (bkL F)) ks) (own_rus hown rfl) hnc' (by have := formT_len (tabL (bkL F)) ks; have := HE.out.2.2; omega) hnil' (formT_ok HE.out.2.1 ks hKL)
      have H1 : Hid (Below mb w v1 ∧ KeyL (tabL (bkL F)) ks) := ⟨HE.out.1.trans (hBv1.mono (Nat.le_trans (Nat.le_of_eq HMB.out.symm) HE.out.1.size)), hKL⟩
      clear hown hKL hBv1 hkn hnc' hnil'
      go_wp2_with fail
      refine hmo.mono ?_
      clear hmo
      rintro e v2 ⟨⟨v, rfl, hMp, hvb⟩, hBv2⟩
      have H2 : Hid (Below mb w v2 ∧ MpAt v2 v (formT (tabL (bkL F)) ks)) := ⟨H1.out.1.trans (hBv2.mono (Nat.le_trans (Nat.le_of_eq HMB.out.symm) H1.out.1.size)), hMp⟩
      clear hMp hBv2 hvb
      go_wp2
      go_ret
      exact ⟨v, ks, rfl, H2.out.2, H1.out.2, by rw [HMB.out]; exact H2.out.1⟩
end Go.Proofs.YtggnglgehobglaaGreatDoor
