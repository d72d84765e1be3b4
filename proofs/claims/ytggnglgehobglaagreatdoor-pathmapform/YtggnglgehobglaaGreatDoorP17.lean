import Derived.Test.YtggnglgehobglaaGreatDoorP16
import Derived.Test.YtggnglgehobglaaGreatDoorP15
/- The walks of mapOf, plain, Rule. -/
namespace Go.Proofs.YtggnglgehobglaaGreatDoor
open Go.RowKit Go.Shelf Go.Maps

attribute [local go_sem] Oper.semAt_some

theorem duo_cells {W : World} {n : Nat} {a b : Value} {t : TypeId} (h : W.heap[n]? = some (.cells #[a, b] t)) : W.cell? ⟨n, 0, none⟩ = some a ∧ W.cell? ⟨n, 1, none⟩ = some b := by
  simp [World.cell?, h]
theorem mapOf_any (w : World) (a : Option Addr) (n c : Nat) (F : List Ru) (hl : Rus w a n F) (hnc : n ≤ c) (hn : n ≤ 1000) (hnil : a = none → n = 0 ∧ c = 0) (hF : FOk F) :
    Calls Tryz.prog 22 #[.slice a n c] w fun e w' => (∃ m, e = .returned (.pointer (some ⟨m, 0, none⟩)) ∧ MpAt w' m F ∧ w.heap.size ≤ m) ∧ Below w.heap.size w w' := by
  have htb := tableOf_any w a n c F hl hn (fun r hr => by have := isP_len (hF r hr).1; omega)
  have HL : Hid (Rus w a n F ∧ FOk F ∧ (a = none → n = 0 ∧ c = 0)) := ⟨hl, hF, hnil⟩
  clear hl hF hnil
  go_enter Tryz.func22, Tryz.ntmps22
  go_wp2_with fail
  refine htb.mono ?_
  clear htb
  rintro e w1 ⟨b, rfl, hT, hb, hB1⟩
  have HB1 : Hid (Below w.heap.size w w1 ∧ TbAt w1 b (tabL F) n) := ⟨hB1, hT⟩
  clear hT hb hB1
  have hnew := World.alloc_heap_new w1 (.cells #[.slice a n c, .map (some b)] 60)
  have HM : Hid (MpAt (w1.alloc (.cells #[.slice a n c, .map (some b)] 60)) w1.heap.size F ∧ Below w.heap.size w (w1.alloc (.cells #[.slice a n c, .map (some b)] 60)) ∧ w.heap.size ≤ w1.heap.size) := by
    have hBA : Below w1.heap.size w1 (w1.alloc (.cells #[.slice a n c, .map (some b)] 60)) := (Below.refl _ w1).alloc (Nat.le_refl _) _
    refine ⟨⟨⟨a, n, c, b, ?_, ?_, (HL.out.1.kept HB1.out.1).kept hBA, hnc, HB1.out.2.below hBA, hn, HL.out.2.2⟩, HL.out.2.1⟩, HB1.out.1.alloc HB1.out.1.size _, HB1.out.1.size⟩
    · exact (duo_cells hnew).1
    · exact (duo_cells hnew).2
  clear hnew
  go_wp2
  go_ret
  exact ⟨⟨_, rfl, HM.out.1, HM.out.2.2⟩, HM.out.2.1⟩
/-- a rule that moves nothing stands as one that keeps -/
def plnR (r : Ru) : Ru := if r.1 = 3 ∧ r.2.2 = r.2.1 then (1, r.2.1, []) else r
theorem plain_str (f t : ByteArray) : (f.toList == t.toList) = decide (bs f = bs t) := by
  rw [toList_bs, toList_bs, Bool.eq_iff_iff]; simp
set_option maxRecDepth 20000 in
theorem step_move (w : World) {ops : Array Oper} {o : Oper} {a : Act} {K : Act → World → Prop} {Q : Exit → Act → World → Prop} {E : Prop} (hgd : o.guard = none) (x y : Nat) (t1 t2 : TypeId)
    (ho : o.op = .call { callee := .value (.func 42), args := #[.tmp x, .tmp y], argTypes := #[t1, t2] }) (vx vy : Value) (hx : a.tmps[x]?.getD undef = vx) (hy : a.tmps[y]?.getD undef = vy) (R : Value → World → Prop)
    (hc : Calls Tryz.prog 42 #[vx, vy] w fun e w' => ∃ v, e = .returned v ∧ R v w') (hK : ∀ v w', R v w' → K (a.put o.dst v) w') :
    if Region.wanted o (yielded ops a.tmps) = true then Oper.wp Tryz.prog o a w K Q else E := by
  have hw : Region.wanted o (yielded ops a.tmps) = true := by simp [Region.wanted, hgd]
  rw [if_pos hw]
  unfold Oper.wp execOp
  simp [ho, resolve, invoke, go_sem, hx, hy]
  refine hc.mono ?_
  rintro e w' ⟨v, rfl, hR⟩
  have := hK v w' hR
  simpa [go_sem] using this
set_option maxRecDepth 100000 in
theorem plain_any (r : Ru) (w : World) : Calls Tryz.prog 56 #[ruV r] w fun e w' => e = .returned (ruV (plnR r)) ∧ Below w.heap.size w w' := by
  obtain ⟨k, f0, t0⟩ := r
  have hmx : Tryz.prog.follows .mixedOrders = true := by kernel_rfl
  have HP : Hid (ruV (plnR (k, f0, t0)) = if (k == 3 && ((mk f0).toList == (mk f0).toList && (mk t0).toList == (mk f0).toList)) = true then rv 1 (mk f0) ⟨#[]⟩ else rv k (mk f0) (mk t0)) := by
    show _ = _
    rw [beq_self_eq_true, Bool.true_and, plain_str, bs_mk, bs_mk]
    unfold plnR
    simp only
    by_cases h : k = 3 ∧ t0 = f0
    · rw [if_pos h, if_pos (by simp [h.1, h.2])]; rfl
    · rw [if_neg h, if_neg (by simpa using h)]
  generalize ruV (plnR (k, f0, t0)) = PV at *
  simp only [ruV]
  generalize mk f0 = f at *
  generalize mk t0 = t at *
  have hbA : BoxR ((w.alloc (.cells #[.int .i64 k, .string f, .string t] 31)).alloc (.cells #[.int .i64 0, .string ⟨#[]⟩, .string ⟨#[]⟩] 31)) w.heap.size k f t := (Below.heap_alloc _ _ _ (by simp)).trans (BoxR.new w k f t)
  have hbB : BoxR ((w.alloc (.cells #[.int .i64 k, .string f, .string t] 31)).alloc (.cells #[.int .i64 0, .string ⟨#[]⟩, .string ⟨#[]⟩] 31)) (w.heap.size + 1) 0 ⟨#[]⟩ ⟨#[]⟩ := by
    have h := BoxR.new (w.alloc (.cells #[.int .i64 k, .string f, .string t] 31)) 0 ⟨#[]⟩ ⟨#[]⟩
    rw [World.size_alloc] at h
    exact h
  have HBB : Hid (BoxR ((w.alloc (.cells #[.int .i64 k, .string f, .string t] 31)).alloc (.cells #[.int .i64 0, .string ⟨#[]⟩, .string ⟨#[]⟩] 31)) w.heap.size k f t ∧ BoxR ((w.alloc (.cells #[.int .i64 k, .string f, .string t] 31)).alloc (.cells #[.int .i64 0, .string ⟨#[]⟩, .string ⟨#[]⟩] 31)) (w.heap.size + 1) 0 ⟨#[]⟩ ⟨#[]⟩ ∧ Below w.heap.size w ((w.alloc (.cells #[.int .i64 k, .string f, .string t] 31)).alloc (.cells #[.int .i64 0, .string ⟨#[]⟩, .string ⟨#[]⟩] 31))) := ⟨hbA, hbB, ((Below.refl _ w).alloc (Nat.le_refl _) _).alloc (by simp) _⟩
  clear hbA hbB
  have hmv := fun W => move_any f f W
  have hkp := fun W => keep_any f W
  have heq := fun W => eqR W k 3 f f t f
  go_enter Tryz.func56, Tryz.ntmps56
  go_upto_region 1 with fail
  generalize (w.alloc (.cells #[.int .i64 k, .string f, .string t] 31)).alloc (.cells #[.int .i64 0, .string ⟨#[]⟩, .string ⟨#[]⟩] 31) = w1 at *
  generalize hby : w.heap.size + 1 = by_ at *
  have hlb : w.heap.size ≤ by_ := by omega
  clear hby
  have HC : Hid (∀ W, Below w1.heap.size w1 W → BoxR W w.heap.size k f t ∧ BoxR W by_ 0 ⟨#[]⟩ ⟨#[]⟩ ∧ Below w.heap.size w W) := fun W hW => ⟨HBB.out.1.below hW HBB.out.1.lt, HBB.out.2.1.below hW HBB.out.2.1.lt, HBB.out.2.2.trans (hW.mono HBB.out.2.2.size)⟩
  have HLB : Hid (w.heap.size ≤ by_) := hlb
  generalize hbx : w.heap.size = bx at *
  have HBX : Hid (w.heap.size = bx) := hbx
  clear HBB hbx hlb
  have H1d : Hid (Below w1.heap.size w1 w1.drew) := ⟨rfl, rfl, rfl, Nat.le_refl _, fun _ _ => rfl⟩
  have HT : Hid (∀ W, Below w1.heap.size w1 W → W.cell? ⟨bx, 0, none⟩ = some (.int .i64 k) ∧ W.cell? ⟨bx, 1, none⟩ = some (.string f) ∧ W.cell? ⟨bx, 2, none⟩ = some (.string t)) := fun W hW => (HC.out W hW).1.cell
  refine wp_region_G (S := SB 1000 (fun _ => True) (fun W => W.cell? ⟨bx, 0, none⟩ = some (.int .i64 k) ∧ W.cell? ⟨bx, 1, none⟩ = some (.string f) ∧ W.cell? ⟨bx, 2, none⟩ = some (.string t))) hmx ?_
  have hSB : SB 1000 (fun _ => True) (fun W => W.cell? ⟨bx, 0, none⟩ = some (.int .i64 k) ∧ W.cell? ⟨bx, 1, none⟩ = some (.string f) ∧ W.cell? ⟨bx, 2, none⟩ = some (.string t)) (Array.replicate 7 false) w1.drew := SB.off (by kernel_rfl) (HT.out _ H1d.out)
  refine wpAnyG_takeP (i := 0) (v := ?_) rfl (by kernel_rfl) (by kernel_rfl) (by kernel_rfl) (fun _ _ _ h => h) rfl (Or.inl ⟨by rfl, ?_⟩) (by assumption) ?_
  rotate_left
  · intro Y hY; obtain ⟨c0, c1, c2⟩ := hY; go_simp; try with_reducible rfl
  intro hSB0
  try simp only [Act.put, List.getElem_toArray, List.getElem_cons_zero, List.setIfInBounds_toArray, List.set_cons_zero, List.set_cons_succ]
  refine wpAnyG_takeP (i := 1) (v := ?_) rfl (by kernel_rfl) (by kernel_rfl) (by kernel_rfl) (fun _ _ _ h => h) rfl (Or.inl ⟨by rfl, ?_⟩) (by assumption) ?_
  rotate_left
  · intro Y hY; obtain ⟨c0, c1, c2⟩ := hY; go_simp; try with_reducible rfl
  intro hSB1
  try simp only [Act.put, List.getElem_toArray, List.getElem_cons_zero, List.getElem_cons_succ, List.setIfInBounds_toArray, List.set_cons_zero, List.set_cons_succ]
  refine wpAnyG_takeP (i := 2) (v := ?_) rfl (by kernel_rfl) (by kernel_rfl) (by kernel_rfl) (fun _ _ _ h => h) rfl (Or.inl ⟨by rfl, ?_⟩) (by assumption) ?_
  rotate_left
  · intro Y hY; obtain ⟨c0, c1, c2⟩ := hY; go_simp; try with_reducible rfl
  intro hSB2
  try simp only [Act.put, List.getElem_toArray, List.getElem_cons_zero, List.getElem_cons_succ, List.setIfInBounds_toArray, List.set_cons_zero, List.set_cons_succ]
  refine wpAnyG_takeP (i := 3) (v := ?_) rfl (by kernel_rfl) (by kernel_rfl) (by kernel_rfl) (fun _ _ _ h => h) rfl (Or.inl ⟨by rfl, ?_⟩) (by assumption) ?_
  rotate_left
  · intro Y hY; obtain ⟨c0, c1, c2⟩ := hY; go_simp; try with_reducible rfl
  intro hSB3
  try simp only [Act.put, List.getElem_toArray, List.getElem_cons_zero, List.getElem_cons_succ, List.setIfInBounds_toArray, List.set_cons_zero, List.set_cons_succ]
  refine wpAnyG_takeP (i := 4) (v := ?_) rfl (by kernel_rfl) (by kernel_rfl) (by kernel_rfl) (fun _ _ _ h => h) rfl (Or.inl ⟨by rfl, ?_⟩) (by assumption) ?_
  rotate_left
  · intro Y hY; obtain ⟨c0, c1, c2⟩ := hY; go_simp; try with_reducible rfl
  intro hSB4
  try simp only [Act.put, List.getElem_toArray, List.getElem_cons_zero, List.getElem_cons_succ, List.setIfInBounds_toArray, List.set_cons_zero, List.set_cons_succ]
  refine wpAnyG_one (i := 5) (by kernel_rfl) rfl (fun K hK => ?_)
  refine step_move _ (by rfl) _ _ _ _ (by rfl) _ _ (by rfl) (by rfl) _ (ret_calls (hmv _)) ?_
  rintro v u5 ⟨rfl, hB5⟩
  have H5 : Hid (Below w1.heap.size w1 u5) := H1d.out.trans (hB5.mono H1d.out.size)
  refine hK.out _ _ (SB.off (by kernel_rfl) (HT.out _ H5.out)) (fun hSB5 => ?_)
  clear hK K hB5
  try simp only [Act.put, List.getElem_toArray, List.getElem_cons_zero, List.getElem_cons_succ, List.setIfInBounds_toArray, List.set_cons_zero, List.set_cons_succ]
  generalize (k == 3 && (f.toList == f.toList && t.toList == f.toList)) = BQ at *
  refine wpAnyG_takeP (i := 6) (v := ?_) rfl (by kernel_rfl) (by kernel_rfl) (by kernel_rfl) (fun _ _ _ h => h) rfl (Or.inl ⟨by rfl, ?_⟩) (by assumption) ?_
  rotate_left
  · intro Y hY; obtain ⟨c0, c1, c2⟩ := hY; go_simp; try with_reducible rfl
  intro hSB6
  try simp only [Act.put, List.getElem_toArray, List.getElem_cons_zero, List.getElem_cons_succ, List.setIfInBounds_toArray, List.set_cons_zero, List.set_cons_succ]
  refine wpAnyG_done (by kernel_rfl) ?_ _
  clear hSB hSB0 hSB1 hSB2 hSB3 hSB4 hSB5 hSB6 hmv
  obtain ⟨a0, a1, a2⟩ := (HC.out u5 H5.out).1.cell
  cases BQ with
  | true =>
    have HX : Hid (PV = rv 1 f ⟨#[]⟩) := by show _ = _; rw [HP.out]; rfl
    clear HP
    go_wp2_with fail
    refine (hkp _).mono ?_
    clear hkp a0 a1 a2
    rintro e u6 ⟨rfl, hB6⟩
    have H6 : Hid (Below w1.heap.size w1 u6) := H5.out.trans (hB6.mono H5.out.size)
    clear hB6
    have hbb := (HC.out u6 H6.out).2.1
    obtain ⟨y0, y1, y2⟩ := hbb.cell
    obtain ⟨z0, z1, z2⟩ := hbb.frozen
    have HE : Hid (BoxR (((u6.setCell ⟨by_, 0, none⟩ (.int .i64 1)).setCell ⟨by_, 1, none⟩ (.string f)).setCell ⟨by_, 2, none⟩ (.string ⟨#[]⟩)) by_ 1 f ⟨#[]⟩ ∧ Below w.heap.size w (((u6.setCell ⟨by_, 0, none⟩ (.int .i64 1)).setCell ⟨by_, 1, none⟩ (.string f)).setCell ⟨by_, 2, none⟩ (.string ⟨#[]⟩))) := by
      have hB := (HC.out u6 H6.out).2.2
      rw [← HBX.out] at hB
      have hle : w.heap.size ≤ by_ := by rw [HBX.out]; exact HLB.out
      exact ⟨hbb.all 1 f ⟨#[]⟩, ((hB.setCell (p := ⟨by_, 0, none⟩) hle _).setCell (p := ⟨by_, 1, none⟩) hle _).setCell (p := ⟨by_, 2, none⟩) hle _⟩
    clear hbb
    go_wp2
    exact mrule_ret (k := 2) rfl HE.out.1 rfl rfl ⟨by rw [HX.out], HE.out.2⟩
  | false =>
    have HX : Hid (PV = rv k f t) := by show _ = _; rw [HP.out]; rfl
    clear HP hkp
    have hbb := (HC.out u5 H5.out).2.1
    obtain ⟨y0, y1, y2⟩ := hbb.cell
    obtain ⟨z0, z1, z2⟩ := hbb.frozen
    have HE : Hid (BoxR (((u5.setCell ⟨by_, 0, none⟩ (.int .i64 k)).setCell ⟨by_, 1, none⟩ (.string f)).setCell ⟨by_, 2, none⟩ (.string t)) by_ k f t ∧ Below w.heap.size w (((u5.setCell ⟨by_, 0, none⟩ (.int .i64 k)).setCell ⟨by_, 1, none⟩ (.string f)).setCell ⟨by_, 2, none⟩ (.string t))) := by
      have hB := (HC.out u5 H5.out).2.2
      rw [← HBX.out] at hB
      have hle : w.heap.size ≤ by_ := by rw [HBX.out]; exact HLB.out
      exact ⟨hbb.all k f t, ((hB.setCell (p := ⟨by_, 0, none⟩) hle _).setCell (p := ⟨by_, 1, none⟩) hle _).setCell (p := ⟨by_, 2, none⟩) hle _⟩
    clear hbb
    go_wp2
    exact mrule_ret (k := 2) rfl HE.out.1 rfl rfl ⟨by rw [HX.out], HE.out.2⟩
end Go.Proofs.YtggnglgehobglaaGreatDoor

/- The walk of oneForm's own test: a rule stays where it lets rows through otherwise than its upper rule (genstay.py). -/
namespace Go.Proofs.YtggnglgehobglaaGreatDoor
open Go.RowKit Go.Shelf Go.Maps

attribute [local go_sem] Oper.semAt_some

set_option maxRecDepth 20000 in
theorem step_lets (w : World) {ops : Array Oper} {o : Oper} {a : Act} {K : Act → World → Prop} {Q : Exit → Act → World → Prop} {E : Prop} (hgd : o.guard = none) (x : Nat) (t1 : TypeId)
    (ho : o.op = .call { callee := .value (.func 41), args := #[.tmp x], argTypes := #[t1] }) (vx : Value) (hx : a.tmps[x]?.getD undef = vx) (R : Value → World → Prop)
    (hc : Calls Tryz.prog 41 #[vx] w fun e w' => ∃ v, e = .returned v ∧ R v w') (hK : ∀ v w', R v w' → K (a.put o.dst v) w') :
    if Region.wanted o (yielded ops a.tmps) = true then Oper.wp Tryz.prog o a w K Q else E := by
  have hw : Region.wanted o (yielded ops a.tmps) = true := by simp [Region.wanted, hgd]
  rw [if_pos hw]
  unfold Oper.wp execOp
  simp [ho, resolve, invoke, go_sem, hx]
  refine hc.mono ?_
  rintro e w' ⟨v, rfl, hR⟩
  have := hK v w' hR
  simpa [go_sem] using this
set_option maxRecDepth 20000 in
theorem step_upper (w : World) {ops : Array Oper} {o : Oper} {a : Act} {K : Act → World → Prop} {Q : Exit → Act → World → Prop} {E : Prop} (hgd : o.guard = none) (x y : Nat) (t1 t2 : TypeId)
    (ho : o.op = .call { callee := .value (.func 38), args := #[.tmp x, .tmp y], argTypes := #[t1, t2] }) (vx vy : Value) (hx : a.tmps[x]?.getD undef = vx) (hy : a.tmps[y]?.getD undef = vy) (R : Value → World → Prop)
    (hc : Calls Tryz.prog 38 #[vx, vy] w fun e w' => ∃ v, e = .returned v ∧ R v w') (hK : ∀ v w', R v w' → K (a.put o.dst v) w') :
    if Region.wanted o (yielded ops a.tmps) = true then Oper.wp Tryz.prog o a w K Q else E := by
  have hw : Region.wanted o (yielded ops a.tmps) = true := by simp [Region.wanted, hgd]
  rw [if_pos hw]
  unfold Oper.wp execOp
  simp [ho, resolve, invoke, go_sem, hx, hy]
  refine hc.mono ?_
  rintro e w' ⟨v, rfl, hR⟩
  have := hK v w' hR
  simpa [go_sem] using this

def stayR (g : Tb) (r : Ru) : Bool := letsK r.1 != letsK (uprT g r.2.1).1
set_option maxRecDepth 100000 in
set_option maxHeartbeats 4000000 in
theorem stays_any (r : Ru) (w : World) (b bt n : Nat) (g : Tb) (hT : TbAt w b g n) (hr : r.2.1.length ≤ 1000000) (hc : w.cell? ⟨bt, 0, none⟩ = some (.map (some b))) (hbt : bt < w.heap.size) :
    Calls Tryz.prog 52 #[ruV r, .pointer (some ⟨bt, 0, none⟩)] w fun e w' => e = .returned (.bool (stayR g r)) ∧ Below w.heap.size w w' := by
  obtain ⟨k, f0, t0⟩ := r
  simp only at hr
  obtain ⟨f, hf⟩ : ∃ f, f = mk f0 := ⟨_, rfl⟩
  obtain ⟨t, ht⟩ : ∃ t, t = mk t0 := ⟨_, rfl⟩
  rw [show ruV (k, f0, t0) = rv k f t by rw [hf, ht]]
  have hmx : Tryz.prog.follows .mixedOrders = true := by kernel_rfl
  have hz : f.size ≤ maxLen := by rw [← bs_len, hf, bs_mk]; unfold maxLen; omega
  have hup := fun W h => upper_any W b g n f h hz
  have hl1 := fun W => lets_any k f t W
  have HF : Hid ((letsK k != letsK (uprT g (bs f)).1) = stayR g (k, f0, t0)) := by
    show _ = _
    rw [hf, bs_mk]
    rfl
  generalize stayR g (k, f0, t0) = FB at *
  generalize uprT g (bs f) = U at *
  obtain ⟨k2, f2, t2⟩ := U
  have hl2 := fun W => lets_any k2 (mk f2) (mk t2) W
  simp only at HF
  generalize letsK k = L1 at *
  generalize letsK k2 = L2 at *
  have HT : Hid (∀ W, Below (w.alloc (.cells #[.int .i64 k, .string f, .string t] 31)).heap.size (w.alloc (.cells #[.int .i64 k, .string f, .string t] 31)) W → TbAt W b g n) := fun W hW => hT.below (((Below.refl _ w).alloc (Nat.le_refl _) _).trans (hW.mono (by simp)))
  have hbA := BoxR.new w k f t
  have HC : Hid (∀ W, Below (w.alloc (.cells #[.int .i64 k, .string f, .string t] 31)).heap.size (w.alloc (.cells #[.int .i64 k, .string f, .string t] 31)) W → W.cell? ⟨w.heap.size, 0, none⟩ = some (.int .i64 k) ∧ W.cell? ⟨w.heap.size, 1, none⟩ = some (.string f) ∧ W.cell? ⟨w.heap.size, 2, none⟩ = some (.string t) ∧ W.cell? ⟨bt, 0, none⟩ = some (.map (some b))) := fun W hW => by
    have y1 := (hbA.below hW hbA.lt).cell
    refine ⟨y1.1, y1.2.1, y1.2.2, ?_⟩
    rw [← hc]
    exact (((Below.refl _ w).alloc (Nat.le_refl _) _).trans (hW.mono (by simp))).cell (p := ⟨bt, 0, none⟩) hbt
  have HW : Hid (Below w.heap.size w (w.alloc (.cells #[.int .i64 k, .string f, .string t] 31))) := (Below.refl _ w).alloc (Nat.le_refl _) _
  clear hbA hT hc hbt hf ht hz hr
  go_enter Tryz.func52, Tryz.ntmps52
  go_upto_region 1 with fail
  generalize w.alloc (.cells #[.int .i64 k, .string f, .string t] 31) = w1 at *
  generalize hbx : w.heap.size = bx at *
  have HBX : Hid (w.heap.size = bx) := hbx
  clear hbx
  have H1d : Hid (Below w1.heap.size w1 w1.drew) := ⟨rfl, rfl, rfl, Nat.le_refl _, fun _ _ => rfl⟩
  refine wp_region_G (S := SB 1000 (fun _ => True) (fun W => W.cell? ⟨bx, 0, none⟩ = some (.int .i64 k) ∧ W.cell? ⟨bx, 1, none⟩ = some (.string f) ∧ W.cell? ⟨bx, 2, none⟩ = some (.string t) ∧ W.cell? ⟨bt, 0, none⟩ = some (.map (some b)))) hmx ?_
  have hSB : SB 1000 (fun _ => True) (fun W => W.cell? ⟨bx, 0, none⟩ = some (.int .i64 k) ∧ W.cell? ⟨bx, 1, none⟩ = some (.string f) ∧ W.cell? ⟨bx, 2, none⟩ = some (.string t) ∧ W.cell? ⟨bt, 0, none⟩ = some (.map (some b))) (Array.replicate 9 false) w1.drew := SB.off (by kernel_rfl) (HC.out _ H1d.out)
  refine wpAnyG_takeP (i := 0) (v := ?_) rfl (by kernel_rfl) (by kernel_rfl) (by kernel_rfl) (fun _ _ _ h => h) rfl (Or.inl ⟨by rfl, ?_⟩) (by assumption) ?_
  rotate_left
  · intro Y hY; obtain ⟨a0, a1, a2, b0⟩ := hY; go_simp; try with_reducible rfl
  intro hSB0
  try simp only [Act.put, List.getElem_toArray, List.getElem_cons_zero, List.setIfInBounds_toArray, List.set_cons_zero, List.set_cons_succ]
  refine wpAnyG_takeP (i := 2) (v := ?_) rfl (by kernel_rfl) (by kernel_rfl) (by kernel_rfl) (fun _ _ _ h => h) rfl (Or.inl ⟨by rfl, ?_⟩) (by assumption) ?_
  rotate_left
  · intro Y hY; obtain ⟨a0, a1, a2, b0⟩ := hY; go_simp; try with_reducible rfl
  intro hSB2
  try simp only [Act.put, List.getElem_toArray, List.getElem_cons_zero, List.getElem_cons_succ, List.setIfInBounds_toArray, List.set_cons_zero, List.set_cons_succ]
  refine wpAnyG_takeP (i := 3) (v := ?_) rfl (by kernel_rfl) (by kernel_rfl) (by kernel_rfl) (fun _ _ _ h => h) rfl (Or.inl ⟨by rfl, ?_⟩) (by assumption) ?_
  rotate_left
  · intro Y hY; obtain ⟨a0, a1, a2, b0⟩ := hY; go_simp; try with_reducible rfl
  intro hSB3
  try simp only [Act.put, List.getElem_toArray, List.getElem_cons_zero, List.getElem_cons_succ, List.setIfInBounds_toArray, List.set_cons_zero, List.set_cons_succ]
  refine wpAnyG_takeP (i := 4) (v := ?_) rfl (by kernel_rfl) (by kernel_rfl) (by kernel_rfl) (fun _ _ _ h => h) rfl (Or.inl ⟨by rfl, ?_⟩) (by assumption) ?_
  rotate_left
  · intro Y hY; obtain ⟨a0, a1, a2, b0⟩ := hY; go_simp; try with_reducible rfl
  intro hSB4
  try simp only [Act.put, List.getElem_toArray, List.getElem_cons_zero, List.getElem_cons_succ, List.setIfInBounds_toArray, List.set_cons_zero, List.set_cons_succ]
  refine wpAnyG_one (i := 1) (by kernel_rfl) rfl (fun K hK => ?_)
  refine step_lets _ (by rfl) _ _ (by rfl) _ (by rfl) _ (ret_calls (hl1 _)) ?_
  rintro v u1 ⟨rfl, hBu1⟩
  have Hu1 : Hid (Below w1.heap.size w1 u1) := H1d.out.trans (hBu1.mono H1d.out.size)
  refine hK.out _ _ (SB.off (by kernel_rfl) (HC.out _ Hu1.out)) (fun hSB1 => ?_)
  clear hK K hBu1
  try simp only [Act.put, List.getElem_toArray, List.getElem_cons_zero, List.getElem_cons_succ, List.setIfInBounds_toArray, List.set_cons_zero, List.set_cons_succ]
  refine wpAnyG_one (i := 5) (by kernel_rfl) rfl (fun K hK => ?_)
  refine step_upper _ (by rfl) _ _ _ _ (by rfl) _ _ (by rfl) (by rfl) _ (ret_calls (hup _ (HT.out _ Hu1.out))) ?_
  rintro v u5 ⟨rfl, hBu5⟩
  have Hu5 : Hid (Below w1.heap.size w1 u5) := Hu1.out.trans (hBu5.mono Hu1.out.size)
  refine hK.out _ _ (SB.off (by kernel_rfl) (HC.out _ Hu5.out)) (fun hSB5 => ?_)
  clear hK K hBu5
  try simp only [Act.put, List.getElem_toArray, List.getElem_cons_zero, List.getElem_cons_succ, List.setIfInBounds_toArray, List.set_cons_zero, List.set_cons_succ]
  refine wpAnyG_one (i := 6) (by kernel_rfl) rfl (fun K hK => ?_)
  refine step_lets _ (by rfl) _ _ (by rfl) _ (by rfl) _ (ret_calls (hl2 _)) ?_
  rintro v u6 ⟨rfl, hBu6⟩
  have Hu6 : Hid (Below w1.heap.size w1 u6) := Hu5.out.trans (hBu6.mono Hu5.out.size)
  refine hK.out _ _ (SB.off (by kernel_rfl) (HC.out _ Hu6.out)) (fun hSB6 => ?_)
  clear hK K hBu6
  try simp only [Act.put, List.getElem_toArray, List.getElem_cons_zero, List.getElem_cons_succ, List.setIfInBounds_toArray, List.set_cons_zero, List.set_cons_succ]
  refine wpAnyG_takeP (i := 7) (v := ?_) rfl (by kernel_rfl) (by kernel_rfl) (by kernel_rfl) (fun _ _ _ h => h) rfl (Or.inl ⟨by rfl, ?_⟩) (by assumption) ?_
  rotate_left
  · intro Y hY; obtain ⟨a0, a1, a2, b0⟩ := hY; go_simp; try with_reducible rfl
  intro hSB7
  try simp only [Act.put, List.getElem_toArray, List.getElem_cons_zero, List.getElem_cons_succ, List.setIfInBounds_toArray, List.set_cons_zero, List.set_cons_succ]
  refine wpAnyG_takeP (i := 8) (v := ?_) rfl (by kernel_rfl) (by kernel_rfl) (by kernel_rfl) (fun _ _ _ h => h) rfl (Or.inl ⟨by rfl, ?_⟩) (by assumption) ?_
  rotate_left
  · intro Y hY; obtain ⟨a0, a1, a2, b0⟩ := hY; go_simp; try with_reducible rfl
  intro hSB8
  try simp only [Act.put, List.getElem_toArray, List.getElem_cons_zero, List.getElem_cons_succ, List.setIfInBounds_toArray, List.set_cons_zero, List.set_cons_succ]
  refine wpAnyG_done (by kernel_rfl) ?_ _
  have HE : Hid (Below w.heap.size w u6) := by
    show Below _ _ _
    rw [HBX.out]
    exact HW.out.trans (Hu6.out.mono (by rw [← HBX.out]; exact HW.out.size))
  go_wp2
  go_ret
  exact ⟨by rw [← HF.out]; rfl, HE.out⟩
end Go.Proofs.YtggnglgehobglaaGreatDoor
