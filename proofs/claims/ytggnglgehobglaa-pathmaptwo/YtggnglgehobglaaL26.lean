import Derived.Test.YtggnglgehobglaaL22
import Derived.Test.YtggnglgehobglaaL25
import Derived.Shelf.SlIter.Collect
import Derived.Shelf.SlSortCmp.Whole1
import Derived.Test.YtggnglgehobglaaProg
/- The walk of oneForm's own test: a rule stays where it lets rows through otherwise than its upper rule (genstay.py). -/
namespace Go.Proofs.Ytggnglgehobglaa
open Go.RowKit Go.Shelf Go.Maps

attribute [local go_sem] Oper.semAt_some

set_option maxRecDepth 20000 in
theorem step_lets (w : World) {ops : Array Oper} {o : Oper} {a : Act} {K : Act → World → Prop} {Q : Exit → Act → World → Prop} {E : Prop} (hgd : o.guard = none) (x : Nat) (t1 : TypeId)
    (ho : o.op = .call { callee := .value (.func 19), args := #[.tmp x], argTypes := #[t1] }) (vx : Value) (hx : a.tmps[x]?.getD undef = vx) (R : Value → World → Prop)
    (hc : Calls Try.prog 19 #[vx] w fun e w' => ∃ v, e = .returned v ∧ R v w') (hK : ∀ v w', R v w' → K (a.put o.dst v) w') :
    if Region.wanted o (yielded ops a.tmps) = true then Oper.wp Try.prog o a w K Q else E := by
  have hw : Region.wanted o (yielded ops a.tmps) = true := by simp [Region.wanted, hgd]
  rw [if_pos hw]
  unfold Oper.wp execOp
  simp [ho, resolve, invoke, go_sem, hx]
  refine hc.mono ?_
  rintro e w' ⟨v, rfl, hR⟩
  have := hK v w' hR
  simpa [go_sem] using this
set_option maxRecDepth 20000 in
theorem step_upper (w : World) {ops : Array Oper} {o : Oper} {a : Act} {K : Act → World → Prop} {Q : Exit → Act → World → Prop} {E : Prop} (hgd : o.guard = none) (x y : Nat) (t1 t2 : TypeId)
    (ho : o.op = .call { callee := .value (.func 23), args := #[.tmp x, .tmp y], argTypes := #[t1, t2] }) (vx vy : Value) (hx : a.tmps[x]?.getD undef = vx) (hy : a.tmps[y]?.getD undef = vy) (R : Value → World → Prop)
    (hc : Calls Try.prog 23 #[vx, vy] w fun e w' => ∃ v, e = .returned v ∧ R v w') (hK : ∀ v w', R v w' → K (a.put o.dst v) w') :
    if Region.wanted o (yielded ops a.tmps) = true then Oper.wp Try.prog o a w K Q else E := by
  have hw : Region.wanted o (yielded ops a.tmps) = true := by simp [Region.wanted, hgd]
  rw [if_pos hw]
  unfold Oper.wp execOp
  simp [ho, resolve, invoke, go_sem, hx, hy]
  refine hc.mono ?_
  rintro e w' ⟨v, rfl, hR⟩
  have := hK v w' hR
  simpa [go_sem] using this

def stayR (g : Tb) (r : Ru) : Bool := letsK r.1 != letsK (uprT g r.2.1).1
set_option maxRecDepth 100000 in
set_option maxHeartbeats 4000000 in
theorem stays_any (r : Ru) (w : World) (b bt n : Nat) (g : Tb) (hT : TbAt w b g n) (hr : r.2.1.length ≤ 1000000) (hc : w.cell? ⟨bt, 0, none⟩ = some (.map (some b))) (hbt : bt < w.heap.size) :
    Calls Try.prog 39 #[ruV r, .pointer (some ⟨bt, 0, none⟩)] w fun e w' => e = .returned (.bool (stayR g r)) ∧ Below w.heap.size w w' := by
  obtain ⟨k, f0, t0⟩ := r
  simp only at hr
  obtain ⟨f, hf⟩ : ∃ f, f = mk f0 := ⟨_, rfl⟩
  obtain ⟨t, ht⟩ : ∃ t, t = mk t0 := ⟨_, rfl⟩
  rw [show ruV (k, f0, t0) = rv k f t by rw [hf, ht]]
  have hmx : Try.prog.follows .mixedOrders = true := by kernel_rfl
  have hz : f.size ≤ maxLen := by rw [← bs_len, hf, bs_mk]; unfold maxLen; omega
  have hup := fun W h => upper_any W b g n f h hz
  have hl1 := fun W => lets_any k f t W
  have HF : Hid ((letsK k != letsK (uprT g (bs f)).1) = stayR g (k, f0, t0)) := by
    show _ = _
    rw [hf, bs_mk]
    rfl
  generalize stayR g (k, f0, t0) = FB at *
  generalize uprT g (bs f) = U at *
  obtain ⟨k2, f2, t2⟩ := U
  have hl2 := fun W => lets_any k2 (mk f2) (mk t2) W
  simp only at HF
  generalize letsK k = L1 at *
  generalize letsK k2 = L2 at *
  have HT : Hid (∀ W, Below (w.alloc (.cells #[.int .i64 k, .string f, .string t] 41)).heap.size (w.alloc (.cells #[.int .i64 k, .string f, .string t] 41)) W → TbAt W b g n) := fun W hW => hT.below (((Below.refl _ w).alloc (Nat.le_refl _) _).trans (hW.mono (by simp)))
  have hbA := BoxR.new w k f t
  have HC : Hid (∀ W, Below (w.alloc (.cells #[.int .i64 k, .string f, .string t] 41)).heap.size (w.alloc (.cells #[.int .i64 k, .string f, .string t] 41)) W → W.cell? ⟨w.heap.size, 0, none⟩ = some (.int .i64 k) ∧ W.cell? ⟨w.heap.size, 1, none⟩ = some (.string f) ∧ W.cell? ⟨w.heap.size, 2, none⟩ = some (.string t) ∧ W.cell? ⟨bt, 0, none⟩ = some (.map (some b))) := fun W hW => by
    have y1 := (hbA.below hW hbA.lt).cell
    refine ⟨y1.1, y1.2.1, y1.2.2, ?_⟩
    rw [← hc]
    exact (((Below.refl _ w).alloc (Nat.le_refl _) _).trans (hW.mono (by simp))).cell (p := ⟨bt, 0, none⟩) hbt
  have HW : Hid (Below w.heap.size w (w.alloc (.cells #[.int .i64 k, .string f, .string t] 41))) := (Below.refl _ w).alloc (Nat.le_refl _) _
  clear hbA hT hc hbt hf ht hz hr
  go_enter Try.func39, Try.ntmps39
  go_upto_region 1 with fail
  generalize w.alloc (.cells #[.int .i64 k, .string f, .string t] 41) = w1 at *
  generalize hbx : w.heap.size = bx at *
  have HBX : Hid (w.heap.size = bx) := hbx
  clear hbx
  have H1d : Hid (Below w1.heap.size w1 w1.drew) := ⟨rfl, rfl, rfl, Nat.le_refl _, fun _ _ => rfl⟩
  refine wp_region_G (S := SB 1000 (fun _ => True) (fun W => W.cell? ⟨bx, 0, none⟩ = some (.int .i64 k) ∧ W.cell? ⟨bx, 1, none⟩ = some (.string f) ∧ W.cell? ⟨bx, 2, none⟩ = some (.string t) ∧ W.cell? ⟨bt, 0, none⟩ = some (.map (some b)))) hmx ?_
  have hSB : SB 1000 (fun _ => True) (fun W => W.cell? ⟨bx, 0, none⟩ = some (.int .i64 k) ∧ W.cell? ⟨bx, 1, none⟩ = some (.string f) ∧ W.cell? ⟨bx, 2, none⟩ = some (.string t) ∧ W.cell? ⟨bt, 0, none⟩ = some (.map (some b))) (Array.replicate 9 false) w1.drew := SB.off (by kernel_rfl) (HC.out _ H1d.out)
  refine wpAnyG_takeP (i := 0) (v := ?_) rfl (by kernel_rfl) (by kernel_rfl) (by kernel_rfl) (fun _ _ _ h => h) rfl (Or.inl ⟨by rfl, ?_⟩) (by assumption) ?_
  rotate_left
  · intro Y hY; obtain ⟨a0, a1, a2, b0⟩ := hY; go_simp; try with_reducible rfl
  intro hSB0
  try simp only [Act.put, List.getElem_toArray, List.getElem_cons_zero, List.setIfInBounds_toArray, List.set_cons_zero, List.set_cons_succ]
  refine wpAnyG_takeP (i := 2) (v := ?_) rfl (by kernel_rfl) (by kernel_rfl) (by kernel_rfl) (fun _ _ _ h => h) rfl (Or.inl ⟨by rfl, ?_⟩) (by assumption) ?_
  rotate_left
  · intro Y hY; obtain ⟨a0, a1, a2, b0⟩ := hY; go_simp; try with_reducible rfl
  intro hSB2
  try simp only [Act.put, List.getElem_toArray, List.getElem_cons_zero, List.getElem_cons_succ, List.setIfInBounds_toArray, List.set_cons_zero, List.set_cons_succ]
  refine wpAnyG_takeP (i := 3) (v := ?_) rfl (by kernel_rfl) (by kernel_rfl) (by kernel_rfl) (fun _ _ _ h => h) rfl (Or.inl ⟨by rfl, ?_⟩) (by assumption) ?_
  rotate_left
  · intro Y hY; obtain ⟨a0, a1, a2, b0⟩ := hY; go_simp; try with_reducible rfl
  intro hSB3
  try simp only [Act.put, List.getElem_toArray, List.getElem_cons_zero, List.getElem_cons_succ, List.setIfInBounds_toArray, List.set_cons_zero, List.set_cons_succ]
  refine wpAnyG_takeP (i := 4) (v := ?_) rfl (by kernel_rfl) (by kernel_rfl) (by kernel_rfl) (fun _ _ _ h => h) rfl (Or.inl ⟨by rfl, ?_⟩) (by assumption) ?_
  rotate_left
  · intro Y hY; obtain ⟨a0, a1, a2, b0⟩ := hY; go_simp; try with_reducible rfl
  intro hSB4
  try simp only [Act.put, List.getElem_toArray, List.getElem_cons_zero, List.getElem_cons_succ, List.setIfInBounds_toArray, List.set_cons_zero, List.set_cons_succ]
  refine wpAnyG_one (i := 1) (by kernel_rfl) rfl (fun K hK => ?_)
  refine step_lets _ (by rfl) _ _ (by rfl) _ (by rfl) _ (ret_calls (hl1 _)) ?_
  rintro v u1 ⟨rfl, hBu1⟩
  have Hu1 : Hid (Below w1.heap.size w1 u1) := H1d.out.trans (hBu1.mono H1d.out.size)
  refine hK.out _ _ (SB.off (by kernel_rfl) (HC.out _ Hu1.out)) (fun hSB1 => ?_)
  clear hK K hBu1
  try simp only [Act.put, List.getElem_toArray, List.getElem_cons_zero, List.getElem_cons_succ, List.setIfInBounds_toArray, List.set_cons_zero, List.set_cons_succ]
  refine wpAnyG_one (i := 5) (by kernel_rfl) rfl (fun K hK => ?_)
  refine step_upper _ (by rfl) _ _ _ _ (by rfl) _ _ (by rfl) (by rfl) _ (ret_calls (hup _ (HT.out _ Hu1.out))) ?_
  rintro v u5 ⟨rfl, hBu5⟩
  have Hu5 : Hid (Below w1.heap.size w1 u5) := Hu1.out.trans (hBu5.mono Hu1.out.size)
  refine hK.out _ _ (SB.off (by kernel_rfl) (HC.out _ Hu5.out)) (fun hSB5 => ?_)
  clear hK K hBu5
  try simp only [Act.put, List.getElem_toArray, List.getElem_cons_zero, List.getElem_cons_succ, List.setIfInBounds_toArray, List.set_cons_zero, List.set_cons_succ]
  refine wpAnyG_one (i := 6) (by kernel_rfl) rfl (fun K hK => ?_)
  refine step_lets _ (by rfl) _ _ (by rfl) _ (by rfl) _ (ret_calls (hl2 _)) ?_
  rintro v u6 ⟨rfl, hBu6⟩
  have Hu6 : Hid (Below w1.heap.size w1 u6) := Hu5.out.trans (hBu6.mono Hu5.out.size)
  refine hK.out _ _ (SB.off (by kernel_rfl) (HC.out _ Hu6.out)) (fun hSB6 => ?_)
  clear hK K hBu6
  try simp only [Act.put, List.getElem_toArray, List.getElem_cons_zero, List.getElem_cons_succ, List.setIfInBounds_toArray, List.set_cons_zero, List.set_cons_succ]
  refine wpAnyG_takeP (i := 7) (v := ?_) rfl (by kernel_rfl) (by kernel_rfl) (by kernel_rfl) (fun _ _ _ h => h) rfl (Or.inl ⟨by rfl, ?_⟩) (by assumption) ?_
  rotate_left
  · intro Y hY; obtain ⟨a0, a1, a2, b0⟩ := hY; go_simp; try with_reducible rfl
  intro hSB7
  try simp only [Act.put, List.getElem_toArray, List.getElem_cons_zero, List.getElem_cons_succ, List.setIfInBounds_toArray, List.set_cons_zero, List.set_cons_succ]
  refine wpAnyG_takeP (i := 8) (v := ?_) rfl (by kernel_rfl) (by kernel_rfl) (by kernel_rfl) (fun _ _ _ h => h) rfl (Or.inl ⟨by rfl, ?_⟩) (by assumption) ?_
  rotate_left
  · intro Y hY; obtain ⟨a0, a1, a2, b0⟩ := hY; go_simp; try with_reducible rfl
  intro hSB8
  try simp only [Act.put, List.getElem_toArray, List.getElem_cons_zero, List.getElem_cons_succ, List.setIfInBounds_toArray, List.set_cons_zero, List.set_cons_succ]
  refine wpAnyG_done (by kernel_rfl) ?_ _
  have HE : Hid (Below w.heap.size w u6) := by
    show Below _ _ _
    rw [HBX.out]
    exact HW.out.trans (Hu6.out.mono (by rw [← HBX.out]; exact HW.out.size))
  go_wp2
  go_ret
  exact ⟨by rw [← HF.out]; rfl, HE.out⟩
end Go.Proofs.Ytggnglgehobglaa

/- The kit's contracts on a map's keys, slices.Collect and slices.SortFunc, laid at this translation by the kit's own command, in plain words. -/
namespace Go.Proofs.Ytggnglgehobglaa
open Go.RowKit Go.Maps Go.Sort Go.Shelf

def Try.keysM_ren : Go.Shelf.Ren := ⟨fun | 7 => 41 | 10 => 54 | n => n, fun | 23 => 45 | 26 => 9 | 3 => 41 | 28 => 67 | 0 => 0 | 27 => 66 | 33 => 54 | 4 => 4 | n => n, fun | n => n⟩
theorem Try.keysM : Go.Proofs.SlLaysZ.n7 Try.prog Try.keysM_ren := {
  mixed := by kernel_rfl
  f7 := ⟨Try.f41.name, by decide, Try.func41.trans (congrArg some (by kernel_rfl))⟩
  f10 := ⟨Try.f54.name, by decide, Try.func54.trans (congrArg some (by kernel_rfl))⟩
  t0 := Try.underlying0
  a0 := Try.isAgg0
  z0 := Try.sizeOf0
  v0 := Try.zeroValue0
  t4 := Try.underlying4
  a4 := Try.isAgg4
  z4 := Try.sizeOf4
  v4 := Try.zeroValue4
  t23 := Try.underlying45
  a23 := Try.isAgg45
  z23 := Try.sizeOf45
  v23 := Try.zeroValue45
  t26 := Try.underlying9
  a26 := Try.isAgg9
  z26 := Try.sizeOf9
  v26 := Try.zeroValue9
  t27 := Try.underlying66
  a27 := Try.isAgg66
  z27 := Try.sizeOf66
  v27 := Try.zeroValue66
  t28 := Try.underlying67
  a28 := Try.isAgg67
  z28 := Try.sizeOf67
  v28 := Try.zeroValue67
  t33 := Try.underlying54
  a33 := Try.isAgg54
  z33 := Try.sizeOf54
  v33 := Try.zeroValue54 }
def Try.collectM_ren : Go.Shelf.Ren := ⟨fun | 8 => 52 | 11 => 63 | n => n, fun | 26 => 9 | 28 => 67 | 24 => 64 | 0 => 0 | 33 => 54 | 4 => 4 | n => n, fun | n => n⟩
theorem Try.collectM : Go.Proofs.SlLaysZ.n8 Try.prog Try.collectM_ren := {
  mixed := by kernel_rfl
  f8 := ⟨Try.f52.name, by decide, Try.func52.trans (congrArg some (by kernel_rfl))⟩
  f11 := ⟨Try.f63.name, by decide, Try.func63.trans (congrArg some (by kernel_rfl))⟩
  t0 := Try.underlying0
  a0 := Try.isAgg0
  z0 := Try.sizeOf0
  v0 := Try.zeroValue0
  t24 := Try.underlying64
  a24 := Try.isAgg64
  z24 := Try.sizeOf64
  v24 := Try.zeroValue64
  t26 := Try.underlying9
  a26 := Try.isAgg9
  z26 := Try.sizeOf9
  v26 := Try.zeroValue9
  t28 := Try.underlying67
  a28 := Try.isAgg67
  z28 := Try.sizeOf67
  v28 := Try.zeroValue67
  i26 := by kernel_rfl }
def Try.sortM_ren : Go.Shelf.Ren := ⟨fun | 6 => 53 | 15 => 65 | 14 => 64 | 28 => 83 | 29 => 84 | 20 => 75 | 21 => 76 | 22 => 77 | 23 => 78 | 24 => 79 | 25 => 80 | 26 => 81 | 27 => 82 | 46 => 87 | 47 => 88 | 48 => 89 | 49 => 90 | 50 => 91 | 57 => 92 | n => n, fun | 22 => 64 | 24 => 9 | 25 => 69 | 3 => 3 | 39 => 87 | 0 => 0 | 53 => 102 | 55 => 104 | 4 => 4 | 46 => 95 | 45 => 94 | 50 => 99 | 5 => 5 | 9 => 9 | 66 => 107 | 70 => 111 | 76 => 113 | 77 => 114 | n => n, fun | n => n⟩
theorem Try.sortM : Go.Proofs.SlLaysF.n6 Try.prog Try.sortM_ren := {
  mixed := by kernel_rfl
  f6 := ⟨Try.f53.name, by decide, Try.func53.trans (congrArg some (by kernel_rfl))⟩
  f14 := ⟨Try.f64.name, by decide, Try.func64.trans (congrArg some (by kernel_rfl))⟩
  f15 := Try.func65.trans (congrArg some (by kernel_rfl))
  f20 := ⟨Try.f75.name, by decide, Try.func75.trans (congrArg some (by kernel_rfl))⟩
  f21 := ⟨Try.f76.name, by decide, Try.func76.trans (congrArg some (by kernel_rfl))⟩
  f22 := ⟨Try.f77.name, by decide, Try.func77.trans (congrArg some (by kernel_rfl))⟩
  f23 := ⟨Try.f78.name, by decide, Try.func78.trans (congrArg some (by kernel_rfl))⟩
  f24 := ⟨Try.f79.name, by decide, Try.func79.trans (congrArg some (by kernel_rfl))⟩
  f25 := ⟨Try.f80.name, by decide, Try.func80.trans (congrArg some (by kernel_rfl))⟩
  f26 := ⟨Try.f81.name, by decide, Try.func81.trans (congrArg some (by kernel_rfl))⟩
  f27 := ⟨Try.f82.name, by decide, Try.func82.trans (congrArg some (by kernel_rfl))⟩
  f28 := Try.func83.trans (congrArg some (by kernel_rfl))
  f29 := Try.func84.trans (congrArg some (by kernel_rfl))
  f46 := ⟨Try.f87.name, by decide, Try.func87.trans (congrArg some (by kernel_rfl))⟩
  f47 := Try.func88.trans (congrArg some (by kernel_rfl))
  f48 := Try.func89.trans (congrArg some (by kernel_rfl))
  f49 := ⟨Try.f90.name, by decide, Try.func90.trans (congrArg some (by kernel_rfl))⟩
  f50 := ⟨Try.f91.name, by decide, Try.func91.trans (congrArg some (by kernel_rfl))⟩
  f57 := ⟨Try.f92.name, by decide, Try.func92.trans (congrArg some (by kernel_rfl))⟩
  t0 := Try.underlying0
  a0 := Try.isAgg0
  z0 := Try.sizeOf0
  v0 := Try.zeroValue0
  t3 := Try.underlying3
  a3 := Try.isAgg3
  z3 := Try.sizeOf3
  v3 := Try.zeroValue3
  t4 := Try.underlying4
  a4 := Try.isAgg4
  z4 := Try.sizeOf4
  v4 := Try.zeroValue4
  t5 := Try.underlying5
  a5 := Try.isAgg5
  z5 := Try.sizeOf5
  v5 := Try.zeroValue5
  t9 := Try.underlying9
  a9 := Try.isAgg9
  z9 := Try.sizeOf9
  v9 := Try.zeroValue9
  t22 := Try.underlying64
  a22 := Try.isAgg64
  z22 := Try.sizeOf64
  v22 := Try.zeroValue64
  a24 := Try.isAgg9
  z24 := Try.sizeOf9
  t25 := Try.underlying69
  a25 := Try.isAgg69
  z25 := Try.sizeOf69
  v25 := Try.zeroValue69
  t39 := Try.underlying87
  a39 := Try.isAgg87
  z39 := Try.sizeOf87
  v39 := Try.zeroValue87
  t45 := Try.underlying94
  a45 := Try.isAgg94
  z45 := Try.sizeOf94
  v45 := Try.zeroValue94
  t46 := Try.underlying95
  a46 := Try.isAgg95
  z46 := Try.sizeOf95
  v46 := Try.zeroValue95
  t50 := Try.underlying99
  a50 := Try.isAgg99
  z50 := Try.sizeOf99
  v50 := Try.zeroValue99
  t53 := Try.underlying102
  a53 := Try.isAgg102
  z53 := Try.sizeOf102
  v53 := Try.zeroValue102
  t55 := Try.underlying104
  a55 := Try.isAgg104
  z55 := Try.sizeOf104
  v55 := Try.zeroValue104
  t66 := Try.underlying107
  a66 := Try.isAgg107
  z66 := Try.sizeOf107
  v66 := Try.zeroValue107
  t70 := Try.underlying111
  a70 := Try.isAgg111
  z70 := Try.sizeOf111
  v70 := Try.zeroValue111
  t76 := Try.underlying113
  a76 := Try.isAgg113
  z76 := Try.sizeOf113
  v76 := Try.zeroValue113
  t77 := Try.underlying114
  a77 := Try.isAgg114
  z77 := Try.sizeOf114
  v77 := Try.zeroValue114 }

end Go.Proofs.Ytggnglgehobglaa
