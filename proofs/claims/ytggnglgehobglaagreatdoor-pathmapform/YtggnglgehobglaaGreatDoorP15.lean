import Derived.Test.YtggnglgehobglaaGreatDoorP14
import Derived.Test.YtggnglgehobglaaGreatDoorP10
import Derived.Test.YtggnglgehobglaaGreatDoorP05
/- The walks of follows and agree (genagree.py). -/
namespace Go.Proofs.YtggnglgehobglaaGreatDoor
open Go.RowKit Go.Shelf Go.Maps

attribute [local go_sem] Oper.semAt_some

theorem ret_calls {P : Program} {f : Nat} {args : Array Value} {w : World} {v : Value} {R : World → World → Prop} (h : Calls P f args w fun e w' => e = .returned v ∧ R w w') : Calls P f args w fun e w' => ∃ u, e = .returned u ∧ (u = v ∧ R w w') :=
  h.mono fun _ _ ⟨he, hr⟩ => ⟨v, he, rfl, hr⟩
set_option maxRecDepth 20000 in
theorem step_target (w : World) {ops : Array Oper} {o : Oper} {a : Act} {K : Act → World → Prop} {Q : Exit → Act → World → Prop} {E : Prop} (hgd : o.guard = none) (x : Nat) (t1 : TypeId)
    (ho : o.op = .call { callee := .value (.func 43), args := #[.tmp x], argTypes := #[t1] }) (vx : Value) (hx : a.tmps[x]?.getD undef = vx) (R : Value → World → Prop)
    (hc : Calls Tryz.prog 43 #[vx] w fun e w' => ∃ v, e = .returned v ∧ R v w') (hK : ∀ v w', R v w' → K (a.put o.dst v) w') :
    if Region.wanted o (yielded ops a.tmps) = true then Oper.wp Tryz.prog o a w K Q else E := by
  have hw : Region.wanted o (yielded ops a.tmps) = true := by simp [Region.wanted, hgd]
  rw [if_pos hw]
  unfold Oper.wp execOp
  simp [ho, resolve, invoke, go_sem, hx]
  refine hc.mono ?_
  rintro e w' ⟨v, rfl, hR⟩
  have := hK v w' hR
  simpa [go_sem] using this
set_option maxRecDepth 20000 in
theorem step_rest2 (w : World) {ops : Array Oper} {o : Oper} {a : Act} {K : Act → World → Prop} {Q : Exit → Act → World → Prop} {E : Prop} (hgd : o.guard = none) (x y : Nat) (t1 t2 : TypeId)
    (ho : o.op = .call { callee := .value (.func 40), args := #[.tmp x, .tmp y], argTypes := #[t1, t2] }) (vx vy : Value) (hx : a.tmps[x]?.getD undef = vx) (hy : a.tmps[y]?.getD undef = vy) (R : Value → World → Prop)
    (hc : Calls Tryz.prog 40 #[vx, vy] w fun e w' => ∃ v, e = .returned v ∧ R v w') (hK : ∀ v w', R v w' → K (a.put o.dst v) w') :
    if Region.wanted o (yielded ops a.tmps) = true then Oper.wp Tryz.prog o a w K Q else E := by
  have hw : Region.wanted o (yielded ops a.tmps) = true := by simp [Region.wanted, hgd]
  rw [if_pos hw]
  unfold Oper.wp execOp
  simp [ho, resolve, invoke, go_sem, hx, hy]
  refine hc.mono ?_
  rintro e w' ⟨v, rfl, hR⟩
  have := hK v w' hR
  simpa [go_sem] using this
/-- one half of agree -/
def folR (r s : Ru) : Bool := decide (restP r.2.1 s.2.1 = restP (tgtR r) (tgtR s))
def agrR (r s : Ru) : Bool := !letsK r.1 || !letsK s.1 || folR r s && folR s r
theorem fol_bool (a b : Option (List UInt8)) : (a.isSome == b.isSome && ((mk (a.getD [])).toList == (mk (b.getD [])).toList)) = decide (a = b) := by
  rw [toList_bs, toList_bs, bs_mk, bs_mk]
  cases a <;> cases b <;> simp
  rw [Bool.eq_iff_iff]; simp
set_option maxRecDepth 100000 in
set_option maxHeartbeats 4000000 in
theorem follows_any (r s : Ru) (w : World) (hr : isP r.2.1 = true ∧ isP r.2.2 = true) (hs : isP s.2.1 = true ∧ isP s.2.2 = true) :
    Calls Tryz.prog 88 #[ruV r, ruV s] w fun e w' => e = .returned (.bool (folR r s)) ∧ Below w.heap.size w w' := by
  obtain ⟨k, f0, t0⟩ := r
  obtain ⟨k2, g0, s0⟩ := s
  simp only at hr hs
  obtain ⟨f, hf⟩ : ∃ f, f = mk f0 := ⟨_, rfl⟩
  obtain ⟨t, ht⟩ : ∃ t, t = mk t0 := ⟨_, rfl⟩
  obtain ⟨f2, hf2⟩ : ∃ f2, f2 = mk g0 := ⟨_, rfl⟩
  obtain ⟨t2, ht2⟩ : ∃ t2, t2 = mk s0 := ⟨_, rfl⟩
  rw [show ruV (k, f0, t0) = rv k f t by rw [hf, ht], show ruV (k2, g0, s0) = rv k2 f2 t2 by rw [hf2, ht2]]
  have hT1 : bs (tgt k f t) = tgtR (k, f0, t0) := by rw [hf, ht]; unfold tgt tgtR; split <;> rw [bs_mk]
  have hT2 : bs (tgt k2 f2 t2) = tgtR (k2, g0, s0) := by rw [hf2, ht2]; unfold tgt tgtR; split <;> rw [bs_mk]
  have p1 := tgtR_isP (r := (k, f0, t0)) hr
  have p2 := tgtR_isP (r := (k2, g0, s0)) hs
  have z1 : f.size ≤ 200 := by rw [← bs_len, hf, bs_mk]; exact isP_len hr.1
  have z2 : f2.size ≤ 200 := by rw [← bs_len, hf2, bs_mk]; exact isP_len hs.1
  have z3 : (tgt k f t).size ≤ 200 := by rw [← bs_len, hT1]; exact isP_len p1
  have z4 : (tgt k2 f2 t2).size ≤ 200 := by rw [← bs_len, hT2]; exact isP_len p2
  have hr1 := fun W => mrest_any f f2 W (by omega) (by omega) (by rw [hf2, bs_mk]; exact right_path _ hs.1)
  have hr2 := fun W => mrest_any (tgt k f t) (tgt k2 f2 t2) W (by omega) (by omega) (by rw [hT2]; exact right_path _ p2)
  have hta1 := fun W => target_any k f t W
  have hta2 := fun W => target_any k2 f2 t2 W
  have HF : Hid ((restB f f2 == restB (tgt k f t) (tgt k2 f2 t2) && ((restS f f2).toList == (restS (tgt k f t) (tgt k2 f2 t2)).toList)) = folR (k, f0, t0) (k2, g0, s0)) := by
    show _ = _
    unfold restB restS folR
    rw [hT1, hT2, hf, hf2, bs_mk, bs_mk]
    exact fol_bool _ _
  generalize folR (k, f0, t0) (k2, g0, s0) = FB at *
  clear hT1 hT2 p1 p2 z1 z2 z3 z4 hf ht hf2 ht2 hr hs
  generalize restS f f2 = RS1 at *
  generalize restB f f2 = RB1 at *
  generalize restS (tgt k f t) (tgt k2 f2 t2) = RS2 at *
  generalize restB (tgt k f t) (tgt k2 f2 t2) = RB2 at *
  generalize tgt k f t = T1 at *
  generalize tgt k2 f2 t2 = T2 at *
  have hbA : BoxR ((w.alloc (.cells #[.int .i64 k, .string f, .string t] 31)).alloc (.cells #[.int .i64 k2, .string f2, .string t2] 31)) w.heap.size k f t := (Below.heap_alloc _ _ _ (by simp)).trans (BoxR.new w k f t)
  have hbB : BoxR ((w.alloc (.cells #[.int .i64 k, .string f, .string t] 31)).alloc (.cells #[.int .i64 k2, .string f2, .string t2] 31)) (w.heap.size + 1) k2 f2 t2 := by
    have h := BoxR.new (w.alloc (.cells #[.int .i64 k, .string f, .string t] 31)) k2 f2 t2
    rw [World.size_alloc] at h
    exact h
  have HBB : Hid (BoxR ((w.alloc (.cells #[.int .i64 k, .string f, .string t] 31)).alloc (.cells #[.int .i64 k2, .string f2, .string t2] 31)) w.heap.size k f t ∧ BoxR ((w.alloc (.cells #[.int .i64 k, .string f, .string t] 31)).alloc (.cells #[.int .i64 k2, .string f2, .string t2] 31)) (w.heap.size + 1) k2 f2 t2 ∧ Below w.heap.size w ((w.alloc (.cells #[.int .i64 k, .string f, .string t] 31)).alloc (.cells #[.int .i64 k2, .string f2, .string t2] 31))) := ⟨hbA, hbB, ((Below.refl _ w).alloc (Nat.le_refl _) _).alloc (by simp) _⟩
  clear hbA hbB
  have hmx : Tryz.prog.follows .mixedOrders = true := by kernel_rfl
  go_enter Tryz.func88, Tryz.ntmps88
  go_upto_region 1 with fail
  generalize (w.alloc (.cells #[.int .i64 k, .string f, .string t] 31)).alloc (.cells #[.int .i64 k2, .string f2, .string t2] 31) = w0 at *
  generalize hby : w.heap.size + 1 = by_ at *
  clear hby
  have HW : Hid (Below w.heap.size w w0) := HBB.out.2.2
  obtain ⟨d0, d1, d2⟩ := HBB.out.1.cell
  obtain ⟨g0', g1, g2⟩ := HBB.out.2.1.cell
  generalize hbx : w.heap.size = bx at *
  have HBX : Hid (w.heap.size = bx) := hbx
  clear hbx
  go_wp2_with fail
  refine (hr1 _).mono ?_
  clear hr1 d0 d1 d2 g0' g1 g2
  rintro e w1 ⟨rfl, hB1⟩
  have H1 : Hid (Below w.heap.size w w1) := by
    show Below _ _ _
    rw [HBX.out]
    exact HW.out.trans (hB1.mono (by rw [← HBX.out]; exact HW.out.size))
  have HC : Hid (∀ W, Below w1.heap.size w1 W → W.cell? ⟨bx, 0, none⟩ = some (.int .i64 k) ∧ W.cell? ⟨bx, 1, none⟩ = some (.string f) ∧ W.cell? ⟨bx, 2, none⟩ = some (.string t) ∧ W.cell? ⟨by_, 0, none⟩ = some (.int .i64 k2) ∧ W.cell? ⟨by_, 1, none⟩ = some (.string f2) ∧ W.cell? ⟨by_, 2, none⟩ = some (.string t2)) := fun W hW => by
    have x1 := HBB.out.1.below hB1 HBB.out.1.lt
    have x2 := HBB.out.2.1.below hB1 HBB.out.2.1.lt
    have y1 := (x1.below hW x1.lt).cell
    have y2 := (x2.below hW x2.lt).cell
    exact ⟨y1.1, y1.2.1, y1.2.2, y2.1, y2.2.1, y2.2.2⟩
  clear hB1 HBB HW
  have H1d : Hid (Below w1.heap.size w1 w1.drew) := ⟨rfl, rfl, rfl, Nat.le_refl _, fun _ _ => rfl⟩
  go_upto_region 2 with fail
  refine wp_region_G (S := SB 1000 (fun _ => True) (fun W => W.cell? ⟨bx, 0, none⟩ = some (.int .i64 k) ∧ W.cell? ⟨bx, 1, none⟩ = some (.string f) ∧ W.cell? ⟨bx, 2, none⟩ = some (.string t) ∧ W.cell? ⟨by_, 0, none⟩ = some (.int .i64 k2) ∧ W.cell? ⟨by_, 1, none⟩ = some (.string f2) ∧ W.cell? ⟨by_, 2, none⟩ = some (.string t2))) hmx ?_
  have hSB : SB 1000 (fun _ => True) (fun W => W.cell? ⟨bx, 0, none⟩ = some (.int .i64 k) ∧ W.cell? ⟨bx, 1, none⟩ = some (.string f) ∧ W.cell? ⟨bx, 2, none⟩ = some (.string t) ∧ W.cell? ⟨by_, 0, none⟩ = some (.int .i64 k2) ∧ W.cell? ⟨by_, 1, none⟩ = some (.string f2) ∧ W.cell? ⟨by_, 2, none⟩ = some (.string t2)) (Array.replicate 10 false) w1.drew := SB.off (by kernel_rfl) (HC.out _ H1d.out)
  refine wpAnyG_takeP (i := 0) (v := ?_) rfl (by kernel_rfl) (by kernel_rfl) (by kernel_rfl) (fun _ _ _ h => h) rfl (Or.inl ⟨by rfl, ?_⟩) (by assumption) ?_
  rotate_left
  · intro Y hY; obtain ⟨a0, a1, a2, b0, b1, b2⟩ := hY; go_simp; try with_reducible rfl
  intro hSB0
  try simp only [Act.put, List.getElem_toArray, List.getElem_cons_zero, List.setIfInBounds_toArray, List.set_cons_zero, List.set_cons_succ]
  refine wpAnyG_takeP (i := 2) (v := ?_) rfl (by kernel_rfl) (by kernel_rfl) (by kernel_rfl) (fun _ _ _ h => h) rfl (Or.inl ⟨by rfl, ?_⟩) (by assumption) ?_
  rotate_left
  · intro Y hY; obtain ⟨a0, a1, a2, b0, b1, b2⟩ := hY; go_simp; try with_reducible rfl
  intro hSB2
  try simp only [Act.put, List.getElem_toArray, List.getElem_cons_zero, List.getElem_cons_succ, List.setIfInBounds_toArray, List.set_cons_zero, List.set_cons_succ]
  refine wpAnyG_one (i := 1) (by kernel_rfl) rfl (fun K hK => ?_)
  refine step_target _ (by rfl) _ _ (by rfl) _ (by rfl) _ (ret_calls (hta1 _)) ?_
  rintro v u1 ⟨rfl, hBu1⟩
  have Hu1 : Hid (Below w1.heap.size w1 u1) := H1d.out.trans (hBu1.mono H1d.out.size)
  refine hK.out _ _ (SB.off (by kernel_rfl) (HC.out _ Hu1.out)) (fun hSB1 => ?_)
  clear hK K hBu1
  try simp only [Act.put, List.getElem_toArray, List.getElem_cons_zero, List.getElem_cons_succ, List.setIfInBounds_toArray, List.set_cons_zero, List.set_cons_succ]
  refine wpAnyG_one (i := 3) (by kernel_rfl) rfl (fun K hK => ?_)
  refine step_target _ (by rfl) _ _ (by rfl) _ (by rfl) _ (ret_calls (hta2 _)) ?_
  rintro v u3 ⟨rfl, hBu3⟩
  have Hu3 : Hid (Below w1.heap.size w1 u3) := Hu1.out.trans (hBu3.mono Hu1.out.size)
  refine hK.out _ _ (SB.off (by kernel_rfl) (HC.out _ Hu3.out)) (fun hSB3 => ?_)
  clear hK K hBu3
  try simp only [Act.put, List.getElem_toArray, List.getElem_cons_zero, List.getElem_cons_succ, List.setIfInBounds_toArray, List.set_cons_zero, List.set_cons_succ]
  refine wpAnyG_one (i := 4) (by kernel_rfl) rfl (fun K hK => ?_)
  refine step_rest2 _ (by rfl) _ _ _ _ (by rfl) _ _ (by rfl) (by rfl) _ (ret_calls (hr2 _)) ?_
  rintro v u4 ⟨rfl, hBu4⟩
  have Hu4 : Hid (Below w1.heap.size w1 u4) := Hu3.out.trans (hBu4.mono Hu3.out.size)
  refine hK.out _ _ (SB.off (by kernel_rfl) (HC.out _ Hu4.out)) (fun hSB4 => ?_)
  clear hK K hBu4
  try simp only [Act.put, List.getElem_toArray, List.getElem_cons_zero, List.getElem_cons_succ, List.setIfInBounds_toArray, List.set_cons_zero, List.set_cons_succ]
  refine wpAnyG_takeP (i := 5) (v := ?_) rfl (by kernel_rfl) (by kernel_rfl) (by kernel_rfl) (fun _ _ _ h => h) rfl (Or.inl ⟨by rfl, ?_⟩) (by assumption) ?_
  rotate_left
  · intro Y hY; obtain ⟨a0, a1, a2, b0, b1, b2⟩ := hY; go_simp; try with_reducible rfl
  intro hSB5
  try simp only [Act.put, List.getElem_toArray, List.getElem_cons_zero, List.getElem_cons_succ, List.setIfInBounds_toArray, List.set_cons_zero, List.set_cons_succ]
  refine wpAnyG_takeP (i := 6) (v := ?_) rfl (by kernel_rfl) (by kernel_rfl) (by kernel_rfl) (fun _ _ _ h => h) rfl (Or.inl ⟨by rfl, ?_⟩) (by assumption) ?_
  rotate_left
  · intro Y hY; obtain ⟨a0, a1, a2, b0, b1, b2⟩ := hY; go_simp; try with_reducible rfl
  intro hSB6
  try simp only [Act.put, List.getElem_toArray, List.getElem_cons_zero, List.getElem_cons_succ, List.setIfInBounds_toArray, List.set_cons_zero, List.set_cons_succ]
  refine wpAnyG_takeP (i := 7) (v := ?_) rfl (by kernel_rfl) (by kernel_rfl) (by kernel_rfl) (fun _ _ _ h => h) rfl (Or.inl ⟨by rfl, ?_⟩) (by assumption) ?_
  rotate_left
  · intro Y hY; obtain ⟨a0, a1, a2, b0, b1, b2⟩ := hY; go_simp; try with_reducible rfl
  intro hSB7
  try simp only [Act.put, List.getElem_toArray, List.getElem_cons_zero, List.getElem_cons_succ, List.setIfInBounds_toArray, List.set_cons_zero, List.set_cons_succ]
  refine wpAnyG_takeP (i := 8) (v := ?_) rfl (by kernel_rfl) (by kernel_rfl) (by kernel_rfl) (fun _ _ _ h => h) rfl (Or.inl ⟨by rfl, ?_⟩) (by assumption) ?_
  rotate_left
  · intro Y hY; obtain ⟨a0, a1, a2, b0, b1, b2⟩ := hY; go_simp; try with_reducible rfl
  intro hSB8
  try simp only [Act.put, List.getElem_toArray, List.getElem_cons_zero, List.getElem_cons_succ, List.setIfInBounds_toArray, List.set_cons_zero, List.set_cons_succ]
  refine wpAnyG_takeP (i := 9) (v := ?_) rfl (by kernel_rfl) (by kernel_rfl) (by kernel_rfl) (fun _ _ _ h => h) rfl (Or.inl ⟨by rfl, ?_⟩) (by assumption) ?_
  rotate_left
  · intro Y hY; obtain ⟨a0, a1, a2, b0, b1, b2⟩ := hY; go_simp; try with_reducible rfl
  intro hSB9
  try simp only [Act.put, List.getElem_toArray, List.getElem_cons_zero, List.getElem_cons_succ, List.setIfInBounds_toArray, List.set_cons_zero, List.set_cons_succ]
  refine wpAnyG_done (by kernel_rfl) ?_ _
  have HE : Hid (Below w.heap.size w u4) := H1.out.trans (Hu4.out.mono H1.out.size)
  clear hSB hSB0 hSB1 hSB2 hSB3 hSB4 hSB5 hSB6 hSB7 hSB8 hSB9 hr2 hta1 hta2
  by_cases hRB : RB1 = RB2
  · subst hRB
    have hbb : (RB1 == RB1) = true := beq_self_eq_true _
    have HF2 : Hid ((RS1.toList == RS2.toList) = FB) := by show _ = _; rw [← HF.out, beq_self_eq_true, Bool.true_and]
    go_wp2
    go_ret
    exact ⟨by rw [← HF2.out]; rfl, HE.out⟩
  · have hbb : (RB1 == RB2) = false := beq_eq_false_iff_ne.2 hRB
    have HF2 : Hid (FB = false) := by show _ = _; rw [← HF.out, hbb, Bool.false_and]
    cases RB1 <;> cases RB2
    · exact absurd rfl hRB
    · go_wp2
      go_ret
      exact ⟨by rw [HF2.out]; rfl, HE.out⟩
    · go_wp2
      go_ret
      exact ⟨by rw [HF2.out]; rfl, HE.out⟩
    · exact absurd rfl hRB
end Go.Proofs.YtggnglgehobglaaGreatDoor

/- The walks of rule's isPath and Check. -/
namespace Go.Proofs.YtggnglgehobglaaGreatDoor
open Go.RowKit Go.Shelf

attribute [local go_sem] Oper.semAt_some

theorem uisPath_any (s : ByteArray) (w : World) (hs : s.size ≤ maxLen) :
    Calls Tryz.prog 86 #[.string s] w fun e w' => e = .returned (.bool (isP (bs s))) ∧ Below w.heap.size w w' := by
  have hp := path_any s w hs
  obtain ⟨e1, h1⟩ : ∃ e1, e1 = (pathSpot (bs s)).1 := ⟨_, rfl⟩
  obtain ⟨e2, h2⟩ : ∃ e2, e2 = (pathSpot (bs s)).2 := ⟨_, rfl⟩
  simp only [spotV] at hp
  rw [← h1, ← h2] at hp
  have H : Hid (((e1 : Int) == 0) = isP (bs s)) := by
    show _ = _
    unfold isP
    rw [← h1, Bool.eq_iff_iff, beq_iff_eq, beq_iff_eq]; omega
  clear h1 h2
  have hfd := fun w => field0 (.int .i64 (e1 : Int)) (.int .i64 (e2 : Int)) w
  go_enter Tryz.func86, Tryz.ntmps86
  go_wp2_with (go_at_call 50; refine hp.mono ?_; rintro e w' ⟨rfl, hB⟩)
  go_ret
  exact ⟨by rw [← H.out]; rfl, hB⟩

def chkE (r : Ru) : Int := if okR r = true then 0 else 2

theorem boxes_ (w : World) (o : Obj) (k : Int) (f t : ByteArray) : BoxR ((w.alloc (.cells #[.int .i64 k, .string f, .string t] 31)).alloc o) w.heap.size k f t :=
  (Below.heap_alloc _ _ _ (by simp)).trans (BoxR.new w k f t)
theorem two_below {w w2 : World} {o o' : Obj} (h : Below ((w.alloc o).alloc o').heap.size ((w.alloc o).alloc o') w2) : Below w.heap.size w w2 :=
  (((Below.refl _ w).alloc (Nat.le_refl _) _).alloc (by simp) _).trans (h.mono (by simp; omega))
theorem two_refl (w : World) (o o' : Obj) : Below w.heap.size w ((w.alloc o).alloc o') := ((Below.refl _ w).alloc (Nat.le_refl _) _).alloc (by simp) _

set_option maxRecDepth 100000 in
set_option maxHeartbeats 4000000 in
theorem ucheck_any (k : Int) (f t : ByteArray) (w : World) (hf : f.size ≤ maxLen) (ht : t.size ≤ maxLen) :
    Calls Tryz.prog 64 #[rv k f t] w fun e w' => e = .returned (.int .i64 (chkE (k, bs f, bs t))) ∧ Below w.heap.size w w' := by
  have hpf := fun W => uisPath_any f W hf
  have hpt := fun W => uisPath_any t W ht
  obtain ⟨E, hE⟩ : ∃ E, E = chkE (k, bs f, bs t) := ⟨_, rfl⟩
  rw [← hE]
  unfold chkE okR at hE
  simp only at hE
  generalize isP (bs f) = pf at *
  by_cases hk1 : k = 1
  · subst hk1
    by_cases htn : bs t = []
    · obtain rfl : t = ⟨#[]⟩ := bs_inj htn
      have e1 : isP (bs ⟨#[]⟩) = true := isP_nil
      rw [e1] at hpt hE
      cases pf with
      | true =>
        have HE : Hid (E = 0) := by rw [hE]; rfl
        clear hE htn
        go_enter Tryz.func64, Tryz.ntmps64
        go_wp2_with first
          | (go_at_call 86; refine (hpf _).mono ?_; clear hpf; rintro e w2 ⟨rfl, hB2⟩; have q2 := (hB2.cell (p := ⟨w.heap.size, 2, none⟩) (by simp; omega)).trans ((boxes_ w _ 1 f ⟨#[]⟩).cell.2.2); have HB : Hid (Below w.heap.size w w2) := two_below hB2; clear hB2)
          | (go_at_call 86; refine (hpt _).mono ?_; clear hpt; rintro e w3 ⟨rfl, hB3⟩)
        go_ret
        exact ⟨by rw [HE.out]; rfl, HB.out.trans (hB3.mono HB.out.size)⟩
      | false =>
        have HE : Hid (E = 2) := by rw [hE]; rfl
        clear hE htn hpt
        go_enter Tryz.func64, Tryz.ntmps64
        go_wp2_with (go_at_call 86; refine (hpf _).mono ?_; clear hpf; rintro e w2 ⟨rfl, hB2⟩; have HB : Hid (Below w.heap.size w w2) := two_below hB2; clear hB2)
        go_ret
        exact ⟨by rw [HE.out]; rfl, HB.out⟩
    · have hem : t.toList.isEmpty = false := by rw [str_empty]; exact decide_eq_false htn
      have HE : Hid (E = 2) := by show E = 2; rw [hE]; simp [htn]
      clear hE htn hpt hpf
      go_enter Tryz.func64, Tryz.ntmps64
      go_wp2
      go_ret
      exact ⟨by rw [HE.out]; rfl, two_refl _ _ _⟩
  by_cases hk2 : k = 2
  · subst hk2
    by_cases htn : bs t = []
    · obtain rfl : t = ⟨#[]⟩ := bs_inj htn
      have e1 : isP (bs ⟨#[]⟩) = true := isP_nil
      rw [e1] at hpt hE
      cases pf with
      | true =>
        have HE : Hid (E = 0) := by rw [hE]; rfl
        clear hE htn
        go_enter Tryz.func64, Tryz.ntmps64
        go_wp2_with first
          | (go_at_call 86; refine (hpf _).mono ?_; clear hpf; rintro e w2 ⟨rfl, hB2⟩; have q2 := (hB2.cell (p := ⟨w.heap.size, 2, none⟩) (by simp; omega)).trans ((boxes_ w _ 2 f ⟨#[]⟩).cell.2.2); have HB : Hid (Below w.heap.size w w2) := two_below hB2; clear hB2)
          | (go_at_call 86; refine (hpt _).mono ?_; clear hpt; rintro e w3 ⟨rfl, hB3⟩)
        go_ret
        exact ⟨by rw [HE.out]; rfl, HB.out.trans (hB3.mono HB.out.size)⟩
      | false =>
        have HE : Hid (E = 2) := by rw [hE]; rfl
        clear hE htn hpt
        go_enter Tryz.func64, Tryz.ntmps64
        go_wp2_with (go_at_call 86; refine (hpf _).mono ?_; clear hpf; rintro e w2 ⟨rfl, hB2⟩; have HB : Hid (Below w.heap.size w w2) := two_below hB2; clear hB2)
        go_ret
        exact ⟨by rw [HE.out]; rfl, HB.out⟩
    · have hem : t.toList.isEmpty = false := by rw [str_empty]; exact decide_eq_false htn
      have HE : Hid (E = 2) := by show E = 2; rw [hE]; simp [htn]
      clear hE htn hpt hpf
      go_enter Tryz.func64, Tryz.ntmps64
      go_wp2
      go_ret
      exact ⟨by rw [HE.out]; rfl, two_refl _ _ _⟩
  by_cases hk3 : k = 3
  · subst hk3
    generalize isP (bs t) = pt at *
    cases pf with
    | true =>
      have HE : Hid (E = if pt = true then 0 else 2) := by rw [hE]; cases pt <;> rfl
      clear hE hk1 hk2
      go_enter Tryz.func64, Tryz.ntmps64
      cases pt with
      | true =>
        go_wp2_with first
          | (go_at_call 86; refine (hpf _).mono ?_; clear hpf; rintro e w2 ⟨rfl, hB2⟩; have q2 := (hB2.cell (p := ⟨w.heap.size, 2, none⟩) (by simp; omega)).trans ((boxes_ w _ 3 f t).cell.2.2); have HB : Hid (Below w.heap.size w w2) := two_below hB2; clear hB2)
          | (go_at_call 86; refine (hpt _).mono ?_; clear hpt; rintro e w3 ⟨rfl, hB3⟩)
        go_ret
        exact ⟨by rw [HE.out]; rfl, HB.out.trans (hB3.mono HB.out.size)⟩
      | false =>
        go_wp2_with first
          | (go_at_call 86; refine (hpf _).mono ?_; clear hpf; rintro e w2 ⟨rfl, hB2⟩; have q2 := (hB2.cell (p := ⟨w.heap.size, 2, none⟩) (by simp; omega)).trans ((boxes_ w _ 3 f t).cell.2.2); have HB : Hid (Below w.heap.size w w2) := two_below hB2; clear hB2)
          | (go_at_call 86; refine (hpt _).mono ?_; clear hpt; rintro e w3 ⟨rfl, hB3⟩)
        go_ret
        exact ⟨by rw [HE.out]; rfl, HB.out.trans (hB3.mono HB.out.size)⟩
    | false =>
      have HE : Hid (E = 2) := by rw [hE]; rfl
      clear hE hpt hk1 hk2
      go_enter Tryz.func64, Tryz.ntmps64
      go_wp2_with (go_at_call 86; refine (hpf _).mono ?_; clear hpf; rintro e w2 ⟨rfl, hB2⟩; have HB : Hid (Below w.heap.size w w2) := two_below hB2; clear hB2)
      go_ret
      exact ⟨by rw [HE.out]; rfl, HB.out⟩
  · have HE : Hid (E = 2) := by show E = 2; rw [hE]; simp [hk1, hk2, hk3]
    clear hE hpf hpt
    go_enter Tryz.func64, Tryz.ntmps64
    go_wp2
    go_ret
    exact ⟨by rw [HE.out]; rfl, two_refl _ _ _⟩
end Go.Proofs.YtggnglgehobglaaGreatDoor
