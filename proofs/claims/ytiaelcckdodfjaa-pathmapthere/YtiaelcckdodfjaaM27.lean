import Derived.Test.YtiaelcckdodfjaaM23
import Derived.Test.YtiaelcckdodfjaaM26
/- The walk of oneForm's own test: a rule stays where it lets rows through otherwise than its upper rule (genstay.py). -/
namespace Go.Proofs.Ytiaelcckdodfjaa
open Go.RowKit Go.Shelf Go.Maps

attribute [local go_sem] Oper.semAt_some

set_option maxRecDepth 20000 in
theorem step_lets (w : World) {ops : Array Oper} {o : Oper} {a : Act} {K : Act → World → Prop} {Q : Exit → Act → World → Prop} {E : Prop} (hgd : o.guard = none) (x : Nat) (t1 : TypeId)
    (ho : o.op = .call { callee := .value (.func 35), args := #[.tmp x], argTypes := #[t1] }) (vx : Value) (hx : a.tmps[x]?.getD undef = vx) (R : Value → World → Prop)
    (hc : Calls Try.prog 35 #[vx] w fun e w' => ∃ v, e = .returned v ∧ R v w') (hK : ∀ v w', R v w' → K (a.put o.dst v) w') :
    if Region.wanted o (yielded ops a.tmps) = true then Oper.wp Try.prog o a w K Q else E := by
  have hw : Region.wanted o (yielded ops a.tmps) = true := by simp [Region.wanted, hgd]
  rw [if_pos hw]
  unfold Oper.wp execOp
  simp [ho, resolve, invoke, go_sem, hx]
  refine hc.mono ?_
  rintro e w' ⟨v, rfl, hR⟩
  have := hK v w' hR
  simpa [go_sem] using this
set_option maxRecDepth 20000 in
theorem step_upper (w : World) {ops : Array Oper} {o : Oper} {a : Act} {K : Act → World → Prop} {Q : Exit → Act → World → Prop} {E : Prop} (hgd : o.guard = none) (x y : Nat) (t1 t2 : TypeId)
    (ho : o.op = .call { callee := .value (.func 39), args := #[.tmp x, .tmp y], argTypes := #[t1, t2] }) (vx vy : Value) (hx : a.tmps[x]?.getD undef = vx) (hy : a.tmps[y]?.getD undef = vy) (R : Value → World → Prop)
    (hc : Calls Try.prog 39 #[vx, vy] w fun e w' => ∃ v, e = .returned v ∧ R v w') (hK : ∀ v w', R v w' → K (a.put o.dst v) w') :
    if Region.wanted o (yielded ops a.tmps) = true then Oper.wp Try.prog o a w K Q else E := by
  have hw : Region.wanted o (yielded ops a.tmps) = true := by simp [Region.wanted, hgd]
  rw [if_pos hw]
  unfold Oper.wp execOp
  simp [ho, resolve, invoke, go_sem, hx, hy]
  refine hc.mono ?_
  rintro e w' ⟨v, rfl, hR⟩
  have := hK v w' hR
  simpa [go_sem] using this

def stayR (g : Tb) (r : Ru) : Bool := letsK r.1 != letsK (uprT g r.2.1).1
set_option maxRecDepth 100000 in
set_option maxHeartbeats 4000000 in
theorem stays_any (r : Ru) (w : World) (b bt n : Nat) (g : Tb) (hT : TbAt w b g n) (hr : r.2.1.length ≤ 1000000) (hc : w.cell? ⟨bt, 0, none⟩ = some (.map (some b))) (hbt : bt < w.heap.size) :
    Calls Try.prog 51 #[ruV r, .pointer (some ⟨bt, 0, none⟩)] w fun e w' => e = .returned (.bool (stayR g r)) ∧ Below w.heap.size w w' := by
  obtain ⟨k, f0, t0⟩ := r
  simp only at hr
  obtain ⟨f, hf⟩ : ∃ f, f = mk f0 := ⟨_, rfl⟩
  obtain ⟨t, ht⟩ : ∃ t, t = mk t0 := ⟨_, rfl⟩
  rw [show ruV (k, f0, t0) = rv k f t by rw [hf, ht]]
  have hmx : Try.prog.follows .mixedOrders = true := by kernel_rfl
  have hz : f.size ≤ maxLen := by rw [← bs_len, hf, bs_mk]; unfold maxLen; omega
  have hup := fun W h => upper_any W b g n f h hz
  have hl1 := fun W => lets_any k f t W
  have HF : Hid ((letsK k != letsK (uprT g (bs f)).1) = stayR g (k, f0, t0)) := by
    show _ = _
    rw [hf, bs_mk]
    rfl
  generalize stayR g (k, f0, t0) = FB at *
  generalize uprT g (bs f) = U at *
  obtain ⟨k2, f2, t2⟩ := U
  have hl2 := fun W => lets_any k2 (mk f2) (mk t2) W
  simp only at HF
  generalize letsK k = L1 at *
  generalize letsK k2 = L2 at *
  have HT : Hid (∀ W, Below (w.alloc (.cells #[.int .i64 k, .string f, .string t] 35)).heap.size (w.alloc (.cells #[.int .i64 k, .string f, .string t] 35)) W → TbAt W b g n) := fun W hW => hT.below (((Below.refl _ w).alloc (Nat.le_refl _) _).trans (hW.mono (by simp)))
  have hbA := BoxR.new w k f t
  have HC : Hid (∀ W, Below (w.alloc (.cells #[.int .i64 k, .string f, .string t] 35)).heap.size (w.alloc (.cells #[.int .i64 k, .string f, .string t] 35)) W → W.cell? ⟨w.heap.size, 0, none⟩ = some (.int .i64 k) ∧ W.cell? ⟨w.heap.size, 1, none⟩ = some (.string f) ∧ W.cell? ⟨w.heap.size, 2, none⟩ = some (.string t) ∧ W.cell? ⟨bt, 0, none⟩ = some (.map (some b))) := fun W hW => by
    have y1 := (hbA.below hW hbA.lt).cell
    refine ⟨y1.1, y1.2.1, y1.2.2, ?_⟩
    rw [← hc]
    exact (((Below.refl _ w).alloc (Nat.le_refl _) _).trans (hW.mono (by simp))).cell (p := ⟨bt, 0, none⟩) hbt
  have HW : Hid (Below w.heap.size w (w.alloc (.cells #[.int .i64 k, .string f, .string t] 35))) := (Below.refl _ w).alloc (Nat.le_refl _) _
  clear hbA hT hc hbt hf ht hz hr
  go_enter Try.func51, Try.ntmps51
  go_upto_region 1 with fail
  generalize w.alloc (.cells #[.int .i64 k, .string f, .string t] 35) = w1 at *
  generalize hbx : w.heap.size = bx at *
  have HBX : Hid (w.heap.size = bx) := hbx
  clear hbx
  have H1d : Hid (Below w1.heap.size w1 w1.drew) := ⟨rfl, rfl, rfl, Nat.le_refl _, fun _ _ => rfl⟩
  refine wp_region_G (S := SB 1000 (fun _ => True) (fun W => W.cell? ⟨bx, 0, none⟩ = some (.int .i64 k) ∧ W.cell? ⟨bx, 1, none⟩ = some (.string f) ∧ W.cell? ⟨bx, 2, none⟩ = some (.string t) ∧ W.cell? ⟨bt, 0, none⟩ = some (.map (some b)))) hmx ?_
  have hSB : SB 1000 (fun _ => True) (fun W => W.cell? ⟨bx, 0, none⟩ = some (.int .i64 k) ∧ W.cell? ⟨bx, 1, none⟩ = some (.string f) ∧ W.cell? ⟨bx, 2, none⟩ = some (.string t) ∧ W.cell? ⟨bt, 0, none⟩ = some (.map (some b))) (Array.replicate 9 false) w1.drew := SB.off (by kernel_rfl) (HC.out _ H1d.out)
  refine wpAnyG_takeP (i := 0) (v := ?_) rfl (by kernel_rfl) (by kernel_rfl) (by kernel_rfl) (fun _ _ _ h => h) rfl (Or.inl ⟨by rfl, ?_⟩) (by assumption) ?_
  rotate_left
  · intro Y hY; obtain ⟨a0, a1, a2, b0⟩ := hY; go_simp; try with_reducible rfl
  intro hSB0
  try simp only [Act.put, List.getElem_toArray, List.getElem_cons_zero, List.setIfInBounds_toArray, List.set_cons_zero, List.set_cons_succ]
  refine wpAnyG_takeP (i := 2) (v := ?_) rfl (by kernel_rfl) (by kernel_rfl) (by kernel_rfl) (fun _ _ _ h => h) rfl (Or.inl ⟨by rfl, ?_⟩) (by assumption) ?_
  rotate_left
  · intro Y hY; obtain ⟨a0, a1, a2, b0⟩ := hY; go_simp; try with_reducible rfl
  intro hSB2
  try simp only [Act.put, List.getElem_toArray, List.getElem_cons_zero, List.getElem_cons_succ, List.setIfInBounds_toArray, List.set_cons_zero, List.set_cons_succ]
  refine wpAnyG_takeP (i := 3) (v := ?_) rfl (by kernel_rfl) (by kernel_rfl) (by kernel_rfl) (fun _ _ _ h => h) rfl (Or.inl ⟨by rfl, ?_⟩) (by assumption) ?_
  rotate_left
  · intro Y hY; obtain ⟨a0, a1, a2, b0⟩ := hY; go_simp; try with_reducible rfl
  intro hSB3
  try simp only [Act.put, List.getElem_toArray, List.getElem_cons_zero, List.getElem_cons_succ, List.setIfInBounds_toArray, List.set_cons_zero, List.set_cons_succ]
  refine wpAnyG_takeP (i := 4) (v := ?_) rfl (by kernel_rfl) (by kernel_rfl) (by kernel_rfl) (fun _ _ _ h => h) rfl (Or.inl ⟨by rfl, ?_⟩) (by assumption) ?_
  rotate_left
  · intro Y hY; obtain ⟨a0, a1, a2, b0⟩ := hY; go_simp; try with_reducible rfl
  intro hSB4
  try simp only [Act.put, List.getElem_toArray, List.getElem_cons_zero, List.getElem_cons_succ, List.setIfInBounds_toArray, List.set_cons_zero, List.set_cons_succ]
  refine wpAnyG_one (i := 1) (by kernel_rfl) rfl (fun K hK => ?_)
  refine step_lets _ (by rfl) _ _ (by rfl) _ (by rfl) _ (ret_calls (hl1 _)) ?_
  rintro v u1 ⟨rfl, hBu1⟩
  have Hu1 : Hid (Below w1.heap.size w1 u1) := H1d.out.trans (hBu1.mono H1d.out.size)
  refine hK.out _ _ (SB.off (by kernel_rfl) (HC.out _ Hu1.out)) (fun hSB1 => ?_)
  clear hK K hBu1
  try simp only [Act.put, List.getElem_toArray, List.getElem_cons_zero, List.getElem_cons_succ, List.setIfInBounds_toArray, List.set_cons_zero, List.set_cons_succ]
  refine wpAnyG_one (i := 5) (by kernel_rfl) rfl (fun K hK => ?_)
  refine step_upper _ (by rfl) _ _ _ _ (by rfl) _ _ (by rfl) (by rfl) _ (ret_calls (hup _ (HT.out _ Hu1.out))) ?_
  rintro v u5 ⟨rfl, hBu5⟩
  have Hu5 : Hid (Below w1.heap.size w1 u5) := Hu1.out.trans (hBu5.mono Hu1.out.size)
  refine hK.out _ _ (SB.off (by kernel_rfl) (HC.out _ Hu5.out)) (fun hSB5 => ?_)
  clear hK K hBu5
  try simp only [Act.put, List.getElem_toArray, List.getElem_cons_zero, List.getElem_cons_succ, List.setIfInBounds_toArray, List.set_cons_zero, List.set_cons_succ]
  refine wpAnyG_one (i := 6) (by kernel_rfl) rfl (fun K hK => ?_)
  refine step_lets _ (by rfl) _ _ (by rfl) _ (by rfl) _ (ret_calls (hl2 _)) ?_
  rintro v u6 ⟨rfl, hBu6⟩
  have Hu6 : Hid (Below w1.heap.size w1 u6) := Hu5.out.trans (hBu6.mono Hu5.out.size)
  refine hK.out _ _ (SB.off (by kernel_rfl) (HC.out _ Hu6.out)) (fun hSB6 => ?_)
  clear hK K hBu6
  try simp only [Act.put, List.getElem_toArray, List.getElem_cons_zero, List.getElem_cons_succ, List.setIfInBounds_toArray, List.set_cons_zero, List.set_cons_succ]
  refine wpAnyG_takeP (i := 7) (v := ?_) rfl (by kernel_rfl) (by kernel_rfl) (by kernel_rfl) (fun _ _ _ h => h) rfl (Or.inl ⟨by rfl, ?_⟩) (by assumption) ?_
  rotate_left
  · intro Y hY; obtain ⟨a0, a1, a2, b0⟩ := hY; go_simp; try with_reducible rfl
  intro hSB7
  try simp only [Act.put, List.getElem_toArray, List.getElem_cons_zero, List.getElem_cons_succ, List.setIfInBounds_toArray, List.set_cons_zero, List.set_cons_succ]
  refine wpAnyG_takeP (i := 8) (v := ?_) rfl (by kernel_rfl) (by kernel_rfl) (by kernel_rfl) (fun _ _ _ h => h) rfl (Or.inl ⟨by rfl, ?_⟩) (by assumption) ?_
  rotate_left
  · intro Y hY; obtain ⟨a0, a1, a2, b0⟩ := hY; go_simp; try with_reducible rfl
  intro hSB8
  try simp only [Act.put, List.getElem_toArray, List.getElem_cons_zero, List.getElem_cons_succ, List.setIfInBounds_toArray, List.set_cons_zero, List.set_cons_succ]
  refine wpAnyG_done (by kernel_rfl) ?_ _
  have HE : Hid (Below w.heap.size w u6) := by
    show Below _ _ _
    rw [HBX.out]
    exact HW.out.trans (Hu6.out.mono (by rw [← HBX.out]; exact HW.out.size))
  go_wp2
  go_ret
  exact ⟨by rw [← HF.out]; rfl, HE.out⟩
end Go.Proofs.Ytiaelcckdodfjaa
