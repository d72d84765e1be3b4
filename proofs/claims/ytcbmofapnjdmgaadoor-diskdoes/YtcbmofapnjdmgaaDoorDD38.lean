import Derived.Test.YtcbmofapnjdmgaaDoorDD34
import Derived.Test.YtcbmofapnjdmgaaDoorDD22
import Derived.Deep.CutRange
/- The walk of the law's does: a file made shorter, given another name, taken away. -/
namespace Go.Proofs.YtcbmofapnjdmgaaDoor
open Go.RowKit Go.Maps

attribute [local go_sem] Oper.semAt_some

set_option maxRecDepth 20000 in
theorem step_wdoes_truncP (w : World) {ops : Array Oper} {o : Oper} {a : Act} {K : Act → World → Prop} {Q : Exit → Act → World → Prop} {E : Prop} (hw : Region.wanted o (yielded ops a.tmps) = true) (x0 x1 x2 : Nat) (ty0 ty1 ty2 : TypeId)
    (ho : o.op = .call { callee := .value (.func 23), args := #[.tmp x0, .tmp x1, .tmp x2], argTypes := #[ty0, ty1, ty2] }) (vx0 vx1 vx2 : Value) (hx0 : a.tmps[x0]?.getD undef = vx0) (hx1 : a.tmps[x1]?.getD undef = vx1) (hx2 : a.tmps[x2]?.getD undef = vx2) (R : Value → World → Prop)
    (hc : Calls Tryd.prog 23 #[vx0, vx1, vx2] w fun e w' => ∃ v, e = .returned v ∧ R v w') (hK : ∀ v w', R v w' → K (a.put o.dst v) w') :
    if Region.wanted o (yielded ops a.tmps) = true then Oper.wp Tryd.prog o a w K Q else E := by
  rw [if_pos hw]
  unfold Oper.wp execOp
  simp [ho, resolve, invoke, go_sem, hx0, hx1, hx2]
  refine hc.mono ?_
  rintro e w' ⟨v, rfl, hR⟩
  have := hK v w' hR
  simpa [go_sem] using this
set_option maxRecDepth 20000 in
theorem step_wdoes_truncR (w : World) {ops : Array Oper} {o : Oper} {a : Act} {K : Act → World → Prop} {Q : Exit → Act → World → Prop} {E : Prop} (hw : Region.wanted o (yielded ops a.tmps) = true) (x0 x1 x2 : Nat) (ty0 ty1 ty2 : TypeId)
    (ho : o.op = .call { callee := .value (.func 24), args := #[.tmp x0, .tmp x1, .tmp x2], argTypes := #[ty0, ty1, ty2] }) (vx0 vx1 vx2 : Value) (hx0 : a.tmps[x0]?.getD undef = vx0) (hx1 : a.tmps[x1]?.getD undef = vx1) (hx2 : a.tmps[x2]?.getD undef = vx2) (R : Value → World → Prop)
    (hc : Calls Tryd.prog 24 #[vx0, vx1, vx2] w fun e w' => ∃ v, e = .returned v ∧ R v w') (hK : ∀ v w', R v w' → K (a.put o.dst v) w') :
    if Region.wanted o (yielded ops a.tmps) = true then Oper.wp Tryd.prog o a w K Q else E := by
  rw [if_pos hw]
  unfold Oper.wp execOp
  simp [ho, resolve, invoke, go_sem, hx0, hx1, hx2]
  refine hc.mono ?_
  rintro e w' ⟨v, rfl, hR⟩
  have := hK v w' hR
  simpa [go_sem] using this
set_option maxRecDepth 100000 in
set_option maxHeartbeats 8000000 in
theorem wdoes_trunc (w : World) (p q : Nat) (kind nn : Int) (nm nt : ByteArray) (ad : Option Addr) (ln cp : Nat) (l : List UInt8) (S : DG) (b : Nat) (Fp Gp : Nat → Prop) (h : Pair2 w p q S Fp Gp) (hi : OpIn w ⟨kind, nm, nt, nn, ad, ln, cp⟩ l Fp Gp) (hg : Good S b) (hb : b ≤ 1000000000) (hk : (IntKind.u64.wrap kind).tmod 9 = 1) :
    Calls Tryd.prog 11 #[.agg #[.pointer (some ⟨p, 0, none⟩), .pointer (some ⟨q, 0, none⟩)], .agg #[.int .i64 kind, .string nm, .string nt, .int .i64 nn, .slice ad ln cp]] w fun e w' => e = .returned (.bool true) ∧ DoOut w w' p q (b + 4194305) Fp Gp := by
  have hmx : Tryd.prog.follows .mixedOrders = true := by kernel_rfl
  have H0 : Hid (DoI w p q ⟨kind, nm, nt, nn, ad, ln, cp⟩ l Fp Gp ((w.alloc (.cells #[.pointer (some ⟨p, 0, none⟩), .pointer (some ⟨q, 0, none⟩)] 29)).alloc (.cells #[.int .i64 kind, .string nm, .string nt, .int .i64 nn, .slice ad ln cp] 34)) S S) := ⟨_, _, DoP.start h hi⟩
  have HG : Hid (Good (S.trunc nm.data.toList nn).1 (b + 4194305)) := hg.trunc nm nn
  have HI : Hid (nm.size ≤ maxLen ∧ nt.size ≤ maxLen) := ⟨hi.name, hi.tsz⟩
  have hn := hg.fine.n
  have hw : S.wr < 4000000000000000000 := by have := hg.fine.wr; omega
  have HP : Hid (∀ W, DoI w p q ⟨kind, nm, nt, nn, ad, ln, cp⟩ l Fp Gp W S S → Calls Tryd.prog 23 #[.pointer (some ⟨p, 0, none⟩), .string nm, .int .i64 nn] W fun e w' => ∃ u, e = .returned u ∧ (u = .int .i64 (S.trunc nm.data.toList nn).2 ∧ DoI w p q ⟨kind, nm, nt, nn, ad, ln, cp⟩ l Fp Gp w' (S.trunc nm.data.toList nn).1 S)) := fun W hW => hW.prog fun F hF => truncate_any p S F W nm nn hF hi.name (by omega) (by unfold maxLen; omega) (hg.fine.bs _)
  have HR : Hid (∀ W, DoI w p q ⟨kind, nm, nt, nn, ad, ln, cp⟩ l Fp Gp W (S.trunc nm.data.toList nn).1 S → Calls Tryd.prog 24 #[.pointer (some ⟨q, 0, none⟩), .string nm, .int .i64 nn] W fun e w' => ∃ u, e = .returned u ∧ (u = .int .i64 (S.trunc nm.data.toList nn).2 ∧ DoI w p q ⟨kind, nm, nt, nn, ad, ln, cp⟩ l Fp Gp w' (S.trunc nm.data.toList nn).1 (S.trunc nm.data.toList nn).1)) := fun W hW => hW.refr fun F hF => rtruncate_any q S F W nm nn hF (by omega) (by omega) hg.lm
  generalize (S.trunc nm.data.toList nn) = T at *
  obtain ⟨T, er⟩ := T
  simp only at HP HR HG
  clear h hi hg hb hn hw
  obtain ⟨c0, c1, c2, c3, c4, c5, c6⟩ := H0.out.cells
  go_enter Tryd.func11, Tryd.ntmps11
  go_upto_region 14 with fail
  clear c0 c1 c2 c3 c4 c5 c6
  generalize ((w.alloc (.cells #[.pointer (some ⟨p, 0, none⟩), .pointer (some ⟨q, 0, none⟩)] 29)).alloc (.cells #[.int .i64 kind, .string nm, .string nt, .int .i64 nn, .slice ad ln cp] 34)) = w1 at *
  refine wp_region_G (S := SB 1000 (fun _ => True) (fun W => W.cell? ⟨w.heap.size, 0, none⟩ = some (.pointer (some ⟨p, 0, none⟩)) ∧ W.cell? ⟨w.heap.size, 1, none⟩ = some (.pointer (some ⟨q, 0, none⟩)) ∧ W.cell? ⟨w.heap.size + 1, 0, none⟩ = some (.int .i64 kind) ∧ W.cell? ⟨w.heap.size + 1, 1, none⟩ = some (.string nm) ∧ W.cell? ⟨w.heap.size + 1, 2, none⟩ = some (.string nt) ∧ W.cell? ⟨w.heap.size + 1, 3, none⟩ = some (.int .i64 nn) ∧ W.cell? ⟨w.heap.size + 1, 4, none⟩ = some (.slice ad ln cp))) hmx ?_
  have hSB : SB 1000 (fun _ => True) (fun W : World => W.cell? ⟨w.heap.size, 0, none⟩ = some (.pointer (some ⟨p, 0, none⟩)) ∧ W.cell? ⟨w.heap.size, 1, none⟩ = some (.pointer (some ⟨q, 0, none⟩)) ∧ W.cell? ⟨w.heap.size + 1, 0, none⟩ = some (.int .i64 kind) ∧ W.cell? ⟨w.heap.size + 1, 1, none⟩ = some (.string nm) ∧ W.cell? ⟨w.heap.size + 1, 2, none⟩ = some (.string nt) ∧ W.cell? ⟨w.heap.size + 1, 3, none⟩ = some (.int .i64 nn) ∧ W.cell? ⟨w.heap.size + 1, 4, none⟩ = some (.slice ad ln cp)) (Array.replicate 22 false) w1.drew := SB.on trivial H0.out.drew.cells
  refine wpAnyG_takeP (i := 0) (v := ?_) rfl (by kernel_rfl) (by kernel_rfl) (by kernel_rfl) (fun _ _ _ h => h) rfl (Or.inl ⟨by rfl, ?_⟩) (by assumption) ?_
  rotate_left
  · intro Y hY; obtain ⟨y0, y1, y2, y3, y4, y5, y6⟩ := hY; go_simp; try with_reducible rfl
  intro hSB0
  try simp only [Act.put, List.getElem_toArray, List.getElem_cons_zero, List.setIfInBounds_toArray, List.set_cons_zero, List.set_cons_succ]
  refine wpAnyG_takeP (i := 1) (v := ?_) rfl (by kernel_rfl) (by kernel_rfl) (by kernel_rfl) (fun _ _ _ h => h) rfl (Or.inl ⟨by rfl, ?_⟩) (by assumption) ?_
  rotate_left
  · intro Y hY; obtain ⟨y0, y1, y2, y3, y4, y5, y6⟩ := hY; go_simp; try with_reducible rfl
  intro hSB1
  try simp only [Act.put, List.getElem_toArray, List.getElem_cons_zero, List.getElem_cons_succ, List.setIfInBounds_toArray, List.set_cons_zero, List.set_cons_succ]
  refine wpAnyG_takeP (i := 2) (v := ?_) rfl (by kernel_rfl) (by kernel_rfl) (by kernel_rfl) (fun _ _ _ h => h) rfl (Or.inl ⟨by rfl, ?_⟩) (by assumption) ?_
  rotate_left
  · intro Y hY; obtain ⟨y0, y1, y2, y3, y4, y5, y6⟩ := hY; go_simp; try with_reducible rfl
  intro hSB2
  try simp only [Act.put, List.getElem_toArray, List.getElem_cons_zero, List.getElem_cons_succ, List.setIfInBounds_toArray, List.set_cons_zero, List.set_cons_succ]
  refine wpAnyG_takeP (i := 3) (v := ?_) rfl (by kernel_rfl) (by kernel_rfl) (by kernel_rfl) (fun _ _ _ h => h) rfl (Or.inl ⟨by rfl, ?_⟩) (by assumption) ?_
  rotate_left
  · intro Y hY; obtain ⟨y0, y1, y2, y3, y4, y5, y6⟩ := hY; go_simp; try with_reducible rfl
  intro hSB3
  try simp only [Act.put, List.getElem_toArray, List.getElem_cons_zero, List.getElem_cons_succ, List.setIfInBounds_toArray, List.set_cons_zero, List.set_cons_succ]
  refine wpAnyG_takeP (i := 4) (v := ?_) rfl (by kernel_rfl) (by kernel_rfl) (by kernel_rfl) (fun _ _ _ h => h) rfl (Or.inl ⟨by rfl, ?_⟩) (by assumption) ?_
  rotate_left
  · intro Y hY; obtain ⟨y0, y1, y2, y3, y4, y5, y6⟩ := hY; go_simp; try with_reducible rfl
  intro hSB4
  try simp only [Act.put, List.getElem_toArray, List.getElem_cons_zero, List.getElem_cons_succ, List.setIfInBounds_toArray, List.set_cons_zero, List.set_cons_succ]
  refine wpAnyG_takeP (i := 5) (v := ?_) rfl (by kernel_rfl) (by kernel_rfl) (by kernel_rfl) (fun _ _ _ h => h) rfl (Or.inl ⟨by rfl, ?_⟩) (by assumption) ?_
  rotate_left
  · intro Y hY; obtain ⟨y0, y1, y2, y3, y4, y5, y6⟩ := hY; go_simp; try with_reducible rfl
  intro hSB5
  try simp only [Act.put, List.getElem_toArray, List.getElem_cons_zero, List.getElem_cons_succ, List.setIfInBounds_toArray, List.set_cons_zero, List.set_cons_succ]
  refine wpAnyG_takeP (i := 7) (v := ?_) rfl (by kernel_rfl) (by kernel_rfl) (by kernel_rfl) (fun _ _ _ h => h) rfl (Or.inl ⟨by rfl, ?_⟩) (by assumption) ?_
  rotate_left
  · intro Y hY; obtain ⟨y0, y1, y2, y3, y4, y5, y6⟩ := hY; go_simp; try with_reducible rfl
  intro hSB7
  try simp only [Act.put, List.getElem_toArray, List.getElem_cons_zero, List.getElem_cons_succ, List.setIfInBounds_toArray, List.set_cons_zero, List.set_cons_succ]
  refine wpAnyG_takeP (i := 8) (v := ?_) rfl (by kernel_rfl) (by kernel_rfl) (by kernel_rfl) (fun _ _ _ h => h) rfl (Or.inl ⟨by rfl, ?_⟩) (by assumption) ?_
  rotate_left
  · intro Y hY; obtain ⟨y0, y1, y2, y3, y4, y5, y6⟩ := hY; go_simp; try with_reducible rfl
  intro hSB8
  try simp only [Act.put, List.getElem_toArray, List.getElem_cons_zero, List.getElem_cons_succ, List.setIfInBounds_toArray, List.set_cons_zero, List.set_cons_succ]
  refine wpAnyG_takeP (i := 9) (v := ?_) rfl (by kernel_rfl) (by kernel_rfl) (by kernel_rfl) (fun _ _ _ h => h) rfl (Or.inl ⟨by rfl, ?_⟩) (by assumption) ?_
  rotate_left
  · intro Y hY; obtain ⟨y0, y1, y2, y3, y4, y5, y6⟩ := hY; go_simp; try with_reducible rfl
  intro hSB9
  try simp only [Act.put, List.getElem_toArray, List.getElem_cons_zero, List.getElem_cons_succ, List.setIfInBounds_toArray, List.set_cons_zero, List.set_cons_succ]
  refine wpAnyG_takeP (i := 10) (v := ?_) rfl (by kernel_rfl) (by kernel_rfl) (by kernel_rfl) (fun _ _ _ h => h) rfl (Or.inl ⟨by rfl, ?_⟩) (by assumption) ?_
  rotate_left
  · intro Y hY; obtain ⟨y0, y1, y2, y3, y4, y5, y6⟩ := hY; go_simp; try with_reducible rfl
  intro hSB10
  try simp only [Act.put, List.getElem_toArray, List.getElem_cons_zero, List.getElem_cons_succ, List.setIfInBounds_toArray, List.set_cons_zero, List.set_cons_succ]
  refine wpAnyG_takeP (i := 11) (v := ?_) rfl (by kernel_rfl) (by kernel_rfl) (by kernel_rfl) (fun _ _ _ h => h) rfl (Or.inl ⟨by rfl, ?_⟩) (by assumption) ?_
  rotate_left
  · intro Y hY; obtain ⟨y0, y1, y2, y3, y4, y5, y6⟩ := hY; go_simp; try with_reducible rfl
  intro hSB11
  try simp only [Act.put, List.getElem_toArray, List.getElem_cons_zero, List.getElem_cons_succ, List.setIfInBounds_toArray, List.set_cons_zero, List.set_cons_succ]
  refine wpAnyG_takeP (i := 12) (v := ?_) rfl (by kernel_rfl) (by kernel_rfl) (by kernel_rfl) (fun _ _ _ h => h) rfl (Or.inl ⟨by rfl, ?_⟩) (by assumption) ?_
  rotate_left
  · intro Y hY; obtain ⟨y0, y1, y2, y3, y4, y5, y6⟩ := hY; go_simp; try with_reducible rfl
  intro hSB12
  try simp only [Act.put, List.getElem_toArray, List.getElem_cons_zero, List.getElem_cons_succ, List.setIfInBounds_toArray, List.set_cons_zero, List.set_cons_succ]
  refine wpAnyG_one (i := 6) (by kernel_rfl) rfl (fun K hK => ?_)
  refine step_wdoes_truncP _ (by rfl) _ _ _ _ _ _ (by rfl) _ _ _ (by rfl) (by rfl) (by rfl) (fun v W => v = .int .i64 er ∧ DoI w p q ⟨kind, nm, nt, nn, ad, ln, cp⟩ l Fp Gp W T S) (HP.out w1.drew H0.out.drew) ?_
  rintro v w2 ⟨rfl, h2⟩
  have H2 : Hid (DoI w p q ⟨kind, nm, nt, nn, ad, ln, cp⟩ l Fp Gp w2 T S) := h2
  clear h2
  refine hK.out _ _ (SB.on trivial H2.out.cells) (fun hSB6 => ?_)
  clear hK K
  try simp only [Act.put, List.getElem_toArray, List.getElem_cons_zero, List.getElem_cons_succ, List.setIfInBounds_toArray, List.set_cons_zero, List.set_cons_succ]
  refine wpAnyG_one (i := 13) (by kernel_rfl) rfl (fun K hK => ?_)
  refine step_wdoes_truncR _ (by rfl) _ _ _ _ _ _ (by rfl) _ _ _ (by rfl) (by rfl) (by rfl) (fun v W => v = .int .i64 er ∧ DoI w p q ⟨kind, nm, nt, nn, ad, ln, cp⟩ l Fp Gp W T T) (HR.out w2 H2.out) ?_
  rintro v w3 ⟨rfl, h3⟩
  have H3 : Hid (DoI w p q ⟨kind, nm, nt, nn, ad, ln, cp⟩ l Fp Gp w3 T T) := h3
  clear h3
  refine hK.out _ _ (SB.on trivial H3.out.cells) (fun hSB13 => ?_)
  clear hK K
  try simp only [Act.put, List.getElem_toArray, List.getElem_cons_zero, List.getElem_cons_succ, List.setIfInBounds_toArray, List.set_cons_zero, List.set_cons_succ]
  refine wpAnyG_takeP (i := 14) (v := ?_) rfl (by kernel_rfl) (by kernel_rfl) (by kernel_rfl) (fun _ _ _ h => h) rfl (Or.inl ⟨by rfl, ?_⟩) (by assumption) ?_
  rotate_left
  · intro Y hY; obtain ⟨y0, y1, y2, y3, y4, y5, y6⟩ := hY; go_simp; try with_reducible rfl
  intro hSB14
  try simp only [Act.put, List.getElem_toArray, List.getElem_cons_zero, List.getElem_cons_succ, List.setIfInBounds_toArray, List.set_cons_zero, List.set_cons_succ]
  try simp only [beq_self_eq_true]
  refine wpAnyG_takeP (i := 15) (v := ?_) rfl (by kernel_rfl) (by kernel_rfl) (by kernel_rfl) (fun _ _ _ h => h) rfl (Or.inl ⟨by rfl, ?_⟩) (by assumption) ?_
  rotate_left
  · intro Y hY; obtain ⟨y0, y1, y2, y3, y4, y5, y6⟩ := hY; go_simp; try with_reducible rfl
  intro hSB15
  try simp only [Act.put, List.getElem_toArray, List.getElem_cons_zero, List.getElem_cons_succ, List.setIfInBounds_toArray, List.set_cons_zero, List.set_cons_succ]
  refine wpAnyG_takeP (i := 16) (v := ?_) rfl (by kernel_rfl) (by kernel_rfl) (by kernel_rfl) (fun _ _ _ h => h) rfl (Or.inl ⟨by rfl, ?_⟩) (by assumption) ?_
  rotate_left
  · intro Y hY; obtain ⟨y0, y1, y2, y3, y4, y5, y6⟩ := hY; go_simp; try with_reducible rfl
  intro hSB16
  try simp only [Act.put, List.getElem_toArray, List.getElem_cons_zero, List.getElem_cons_succ, List.setIfInBounds_toArray, List.set_cons_zero, List.set_cons_succ]
  refine wpAnyG_takeP (i := 17) (v := ?_) rfl (by kernel_rfl) (by kernel_rfl) (by kernel_rfl) (fun _ _ _ h => h) rfl (Or.inl ⟨by rfl, ?_⟩) (by assumption) ?_
  rotate_left
  · intro Y hY; obtain ⟨y0, y1, y2, y3, y4, y5, y6⟩ := hY; go_simp; try with_reducible rfl
  intro hSB17
  try simp only [Act.put, List.getElem_toArray, List.getElem_cons_zero, List.getElem_cons_succ, List.setIfInBounds_toArray, List.set_cons_zero, List.set_cons_succ]
  refine wpAnyG_takeP (i := 18) (v := ?_) rfl (by kernel_rfl) (by kernel_rfl) (by kernel_rfl) (fun _ _ _ h => h) rfl (Or.inl ⟨by rfl, ?_⟩) (by assumption) ?_
  rotate_left
  · intro Y hY; obtain ⟨y0, y1, y2, y3, y4, y5, y6⟩ := hY; go_simp; try with_reducible rfl
  intro hSB18
  try simp only [Act.put, List.getElem_toArray, List.getElem_cons_zero, List.getElem_cons_succ, List.setIfInBounds_toArray, List.set_cons_zero, List.set_cons_succ]
  refine wpAnyG_one (i := 19) (by kernel_rfl) rfl (fun K hK => ?_)
  refine step_wfile _ (by rfl) _ _ _ _ (by rfl) _ _ (by rfl) (by rfl) (fun v W => v = .bool true ∧ DoI w p q ⟨kind, nm, nt, nn, ad, ln, cp⟩ l Fp Gp W T T) (H3.out.file HG.out nm HI.out.1) ?_
  rintro v w4 ⟨rfl, h4⟩
  have H4 : Hid (DoI w p q ⟨kind, nm, nt, nn, ad, ln, cp⟩ l Fp Gp w4 T T) := h4
  clear h4
  refine hK.out _ _ (SB.on trivial H4.out.cells) (fun hSB19 => ?_)
  clear hK K
  try simp only [Act.put, List.getElem_toArray, List.getElem_cons_zero, List.getElem_cons_succ, List.setIfInBounds_toArray, List.set_cons_zero, List.set_cons_succ]
  refine wpAnyG_takeP (i := 20) (v := ?_) rfl (by kernel_rfl) (by kernel_rfl) (by kernel_rfl) (fun _ _ _ h => h) rfl (Or.inl ⟨by rfl, ?_⟩) (by assumption) ?_
  rotate_left
  · intro Y hY; obtain ⟨y0, y1, y2, y3, y4, y5, y6⟩ := hY; go_simp; try with_reducible rfl
  intro hSB20
  try simp only [Act.put, List.getElem_toArray, List.getElem_cons_zero, List.getElem_cons_succ, List.setIfInBounds_toArray, List.set_cons_zero, List.set_cons_succ]
  refine wpAnyG_one (i := 21) (by kernel_rfl) rfl (fun K hK => ?_)
  go_simp
  refine hK.out _ _ (SB.on trivial H4.out.cells) (fun hSB21 => ?_)
  clear hK K
  try simp only [Act.put, List.getElem_toArray, List.getElem_cons_zero, List.getElem_cons_succ, List.setIfInBounds_toArray, List.set_cons_zero, List.set_cons_succ]
  refine wpAnyG_done (by kernel_rfl) ?_ _
  clear hSB hSB0 hSB1 hSB2 hSB3 hSB4 hSB5 hSB6 hSB7 hSB8 hSB9 hSB10 hSB11 hSB12 hSB13 hSB14 hSB15 hSB16 hSB17 hSB18 hSB19 hSB20 hSB21
  have HE : Hid (DoOut w w4 p q (b + 4194305) Fp Gp) := H4.out.out HG.out
  clear H0 HP HR H2 H3 H4
  go_wp2
  exact bodyPost_ret (v := .bool true) (by simp [results, Tryd.results11, go_sem]) rfl ⟨rfl, HE.out⟩

set_option maxRecDepth 20000 in
theorem step_wdoes_renamP (w : World) {ops : Array Oper} {o : Oper} {a : Act} {K : Act → World → Prop} {Q : Exit → Act → World → Prop} {E : Prop} (hw : Region.wanted o (yielded ops a.tmps) = true) (x0 x1 x2 : Nat) (ty0 ty1 ty2 : TypeId)
    (ho : o.op = .call { callee := .value (.func 25), args := #[.tmp x0, .tmp x1, .tmp x2], argTypes := #[ty0, ty1, ty2] }) (vx0 vx1 vx2 : Value) (hx0 : a.tmps[x0]?.getD undef = vx0) (hx1 : a.tmps[x1]?.getD undef = vx1) (hx2 : a.tmps[x2]?.getD undef = vx2) (R : Value → World → Prop)
    (hc : Calls Tryd.prog 25 #[vx0, vx1, vx2] w fun e w' => ∃ v, e = .returned v ∧ R v w') (hK : ∀ v w', R v w' → K (a.put o.dst v) w') :
    if Region.wanted o (yielded ops a.tmps) = true then Oper.wp Tryd.prog o a w K Q else E := by
  rw [if_pos hw]
  unfold Oper.wp execOp
  simp [ho, resolve, invoke, go_sem, hx0, hx1, hx2]
  refine hc.mono ?_
  rintro e w' ⟨v, rfl, hR⟩
  have := hK v w' hR
  simpa [go_sem] using this
set_option maxRecDepth 20000 in
theorem step_wdoes_renamR (w : World) {ops : Array Oper} {o : Oper} {a : Act} {K : Act → World → Prop} {Q : Exit → Act → World → Prop} {E : Prop} (hw : Region.wanted o (yielded ops a.tmps) = true) (x0 x1 x2 : Nat) (ty0 ty1 ty2 : TypeId)
    (ho : o.op = .call { callee := .value (.func 26), args := #[.tmp x0, .tmp x1, .tmp x2], argTypes := #[ty0, ty1, ty2] }) (vx0 vx1 vx2 : Value) (hx0 : a.tmps[x0]?.getD undef = vx0) (hx1 : a.tmps[x1]?.getD undef = vx1) (hx2 : a.tmps[x2]?.getD undef = vx2) (R : Value → World → Prop)
    (hc : Calls Tryd.prog 26 #[vx0, vx1, vx2] w fun e w' => ∃ v, e = .returned v ∧ R v w') (hK : ∀ v w', R v w' → K (a.put o.dst v) w') :
    if Region.wanted o (yielded ops a.tmps) = true then Oper.wp Tryd.prog o a w K Q else E := by
  rw [if_pos hw]
  unfold Oper.wp execOp
  simp [ho, resolve, invoke, go_sem, hx0, hx1, hx2]
  refine hc.mono ?_
  rintro e w' ⟨v, rfl, hR⟩
  have := hK v w' hR
  simpa [go_sem] using this
set_option maxRecDepth 100000 in
set_option maxHeartbeats 8000000 in
theorem wdoes_renam (w : World) (p q : Nat) (kind nn : Int) (nm nt : ByteArray) (ad : Option Addr) (ln cp : Nat) (l : List UInt8) (S : DG) (b : Nat) (Fp Gp : Nat → Prop) (h : Pair2 w p q S Fp Gp) (hi : OpIn w ⟨kind, nm, nt, nn, ad, ln, cp⟩ l Fp Gp) (hg : Good S b) (hb : b ≤ 1000000000) (hk : (IntKind.u64.wrap kind).tmod 9 = 2) :
    Calls Tryd.prog 11 #[.agg #[.pointer (some ⟨p, 0, none⟩), .pointer (some ⟨q, 0, none⟩)], .agg #[.int .i64 kind, .string nm, .string nt, .int .i64 nn, .slice ad ln cp]] w fun e w' => e = .returned (.bool true) ∧ DoOut w w' p q (b + 4194305) Fp Gp := by
  have hmx : Tryd.prog.follows .mixedOrders = true := by kernel_rfl
  have H0 : Hid (DoI w p q ⟨kind, nm, nt, nn, ad, ln, cp⟩ l Fp Gp ((w.alloc (.cells #[.pointer (some ⟨p, 0, none⟩), .pointer (some ⟨q, 0, none⟩)] 29)).alloc (.cells #[.int .i64 kind, .string nm, .string nt, .int .i64 nn, .slice ad ln cp] 34)) S S) := ⟨_, _, DoP.start h hi⟩
  have HG : Hid (Good (S.renam nm.data.toList nt.data.toList).1 (b + 4194305)) := hg.renam nm nt
  have HI : Hid (nm.size ≤ maxLen ∧ nt.size ≤ maxLen) := ⟨hi.name, hi.tsz⟩
  have hn := hg.fine.n
  have hw : S.wr < 4000000000000000000 := by have := hg.fine.wr; omega
  have HP : Hid (∀ W, DoI w p q ⟨kind, nm, nt, nn, ad, ln, cp⟩ l Fp Gp W S S → Calls Tryd.prog 25 #[.pointer (some ⟨p, 0, none⟩), .string nm, .string nt] W fun e w' => ∃ u, e = .returned u ∧ (u = .int .i64 (S.renam nm.data.toList nt.data.toList).2 ∧ DoI w p q ⟨kind, nm, nt, nn, ad, ln, cp⟩ l Fp Gp w' (S.renam nm.data.toList nt.data.toList).1 S)) := fun W hW => hW.prog fun F hF => rename_any p S F W nm nt hF hi.name hi.tsz (by omega) (by unfold maxLen; omega)
  have HR : Hid (∀ W, DoI w p q ⟨kind, nm, nt, nn, ad, ln, cp⟩ l Fp Gp W (S.renam nm.data.toList nt.data.toList).1 S → Calls Tryd.prog 26 #[.pointer (some ⟨q, 0, none⟩), .string nm, .string nt] W fun e w' => ∃ u, e = .returned u ∧ (u = .int .i64 (S.renam nm.data.toList nt.data.toList).2 ∧ DoI w p q ⟨kind, nm, nt, nn, ad, ln, cp⟩ l Fp Gp w' (S.renam nm.data.toList nt.data.toList).1 (S.renam nm.data.toList nt.data.toList).1)) := fun W hW => hW.refr fun F hF => rrename_any q S F W nm nt hF hi.tsz (by omega) (by omega) hg.lm
  generalize (S.renam nm.data.toList nt.data.toList) = T at *
  obtain ⟨T, er⟩ := T
  simp only at HP HR HG
  clear h hi hg hb hn hw
  obtain ⟨c0, c1, c2, c3, c4, c5, c6⟩ := H0.out.cells
  go_enter Tryd.func11, Tryd.ntmps11
  go_upto_region 16 with fail
  clear c0 c1 c2 c3 c4 c5 c6
  generalize ((w.alloc (.cells #[.pointer (some ⟨p, 0, none⟩), .pointer (some ⟨q, 0, none⟩)] 29)).alloc (.cells #[.int .i64 kind, .string nm, .string nt, .int .i64 nn, .slice ad ln cp] 34)) = w1 at *
  refine wp_region_G (S := SB 1000 (fun _ => True) (fun W => W.cell? ⟨w.heap.size, 0, none⟩ = some (.pointer (some ⟨p, 0, none⟩)) ∧ W.cell? ⟨w.heap.size, 1, none⟩ = some (.pointer (some ⟨q, 0, none⟩)) ∧ W.cell? ⟨w.heap.size + 1, 0, none⟩ = some (.int .i64 kind) ∧ W.cell? ⟨w.heap.size + 1, 1, none⟩ = some (.string nm) ∧ W.cell? ⟨w.heap.size + 1, 2, none⟩ = some (.string nt) ∧ W.cell? ⟨w.heap.size + 1, 3, none⟩ = some (.int .i64 nn) ∧ W.cell? ⟨w.heap.size + 1, 4, none⟩ = some (.slice ad ln cp))) hmx ?_
  have hSB : SB 1000 (fun _ => True) (fun W : World => W.cell? ⟨w.heap.size, 0, none⟩ = some (.pointer (some ⟨p, 0, none⟩)) ∧ W.cell? ⟨w.heap.size, 1, none⟩ = some (.pointer (some ⟨q, 0, none⟩)) ∧ W.cell? ⟨w.heap.size + 1, 0, none⟩ = some (.int .i64 kind) ∧ W.cell? ⟨w.heap.size + 1, 1, none⟩ = some (.string nm) ∧ W.cell? ⟨w.heap.size + 1, 2, none⟩ = some (.string nt) ∧ W.cell? ⟨w.heap.size + 1, 3, none⟩ = some (.int .i64 nn) ∧ W.cell? ⟨w.heap.size + 1, 4, none⟩ = some (.slice ad ln cp)) (Array.replicate 28 false) w1.drew := SB.on trivial H0.out.drew.cells
  refine wpAnyG_takeP (i := 0) (v := ?_) rfl (by kernel_rfl) (by kernel_rfl) (by kernel_rfl) (fun _ _ _ h => h) rfl (Or.inl ⟨by rfl, ?_⟩) (by assumption) ?_
  rotate_left
  · intro Y hY; obtain ⟨y0, y1, y2, y3, y4, y5, y6⟩ := hY; go_simp; try with_reducible rfl
  intro hSB0
  try simp only [Act.put, List.getElem_toArray, List.getElem_cons_zero, List.setIfInBounds_toArray, List.set_cons_zero, List.set_cons_succ]
  refine wpAnyG_takeP (i := 1) (v := ?_) rfl (by kernel_rfl) (by kernel_rfl) (by kernel_rfl) (fun _ _ _ h => h) rfl (Or.inl ⟨by rfl, ?_⟩) (by assumption) ?_
  rotate_left
  · intro Y hY; obtain ⟨y0, y1, y2, y3, y4, y5, y6⟩ := hY; go_simp; try with_reducible rfl
  intro hSB1
  try simp only [Act.put, List.getElem_toArray, List.getElem_cons_zero, List.getElem_cons_succ, List.setIfInBounds_toArray, List.set_cons_zero, List.set_cons_succ]
  refine wpAnyG_takeP (i := 2) (v := ?_) rfl (by kernel_rfl) (by kernel_rfl) (by kernel_rfl) (fun _ _ _ h => h) rfl (Or.inl ⟨by rfl, ?_⟩) (by assumption) ?_
  rotate_left
  · intro Y hY; obtain ⟨y0, y1, y2, y3, y4, y5, y6⟩ := hY; go_simp; try with_reducible rfl
  intro hSB2
  try simp only [Act.put, List.getElem_toArray, List.getElem_cons_zero, List.getElem_cons_succ, List.setIfInBounds_toArray, List.set_cons_zero, List.set_cons_succ]
  refine wpAnyG_takeP (i := 3) (v := ?_) rfl (by kernel_rfl) (by kernel_rfl) (by kernel_rfl) (fun _ _ _ h => h) rfl (Or.inl ⟨by rfl, ?_⟩) (by assumption) ?_
  rotate_left
  · intro Y hY; obtain ⟨y0, y1, y2, y3, y4, y5, y6⟩ := hY; go_simp; try with_reducible rfl
  intro hSB3
  try simp only [Act.put, List.getElem_toArray, List.getElem_cons_zero, List.getElem_cons_succ, List.setIfInBounds_toArray, List.set_cons_zero, List.set_cons_succ]
  refine wpAnyG_takeP (i := 4) (v := ?_) rfl (by kernel_rfl) (by kernel_rfl) (by kernel_rfl) (fun _ _ _ h => h) rfl (Or.inl ⟨by rfl, ?_⟩) (by assumption) ?_
  rotate_left
  · intro Y hY; obtain ⟨y0, y1, y2, y3, y4, y5, y6⟩ := hY; go_simp; try with_reducible rfl
  intro hSB4
  try simp only [Act.put, List.getElem_toArray, List.getElem_cons_zero, List.getElem_cons_succ, List.setIfInBounds_toArray, List.set_cons_zero, List.set_cons_succ]
  refine wpAnyG_takeP (i := 5) (v := ?_) rfl (by kernel_rfl) (by kernel_rfl) (by kernel_rfl) (fun _ _ _ h => h) rfl (Or.inl ⟨by rfl, ?_⟩) (by assumption) ?_
  rotate_left
  · intro Y hY; obtain ⟨y0, y1, y2, y3, y4, y5, y6⟩ := hY; go_simp; try with_reducible rfl
  intro hSB5
  try simp only [Act.put, List.getElem_toArray, List.getElem_cons_zero, List.getElem_cons_succ, List.setIfInBounds_toArray, List.set_cons_zero, List.set_cons_succ]
  refine wpAnyG_takeP (i := 7) (v := ?_) rfl (by kernel_rfl) (by kernel_rfl) (by kernel_rfl) (fun _ _ _ h => h) rfl (Or.inl ⟨by rfl, ?_⟩) (by assumption) ?_
  rotate_left
  · intro Y hY; obtain ⟨y0, y1, y2, y3, y4, y5, y6⟩ := hY; go_simp; try with_reducible rfl
  intro hSB7
  try simp only [Act.put, List.getElem_toArray, List.getElem_cons_zero, List.getElem_cons_succ, List.setIfInBounds_toArray, List.set_cons_zero, List.set_cons_succ]
  refine wpAnyG_takeP (i := 8) (v := ?_) rfl (by kernel_rfl) (by kernel_rfl) (by kernel_rfl) (fun _ _ _ h => h) rfl (Or.inl ⟨by rfl, ?_⟩) (by assumption) ?_
  rotate_left
  · intro Y hY; obtain ⟨y0, y1, y2, y3, y4, y5, y6⟩ := hY; go_simp; try with_reducible rfl
  intro hSB8
  try simp only [Act.put, List.getElem_toArray, List.getElem_cons_zero, List.getElem_cons_succ, List.setIfInBounds_toArray, List.set_cons_zero, List.set_cons_succ]
  refine wpAnyG_takeP (i := 9) (v := ?_) rfl (by kernel_rfl) (by kernel_rfl) (by kernel_rfl) (fun _ _ _ h => h) rfl (Or.inl ⟨by rfl, ?_⟩) (by assumption) ?_
  rotate_left
  · intro Y hY; obtain ⟨y0, y1, y2, y3, y4, y5, y6⟩ := hY; go_simp; try with_reducible rfl
  intro hSB9
  try simp only [Act.put, List.getElem_toArray, List.getElem_cons_zero, List.getElem_cons_succ, List.setIfInBounds_toArray, List.set_cons_zero, List.set_cons_succ]
  refine wpAnyG_takeP (i := 10) (v := ?_) rfl (by kernel_rfl) (by kernel_rfl) (by kernel_rfl) (fun _ _ _ h => h) rfl (Or.inl ⟨by rfl, ?_⟩) (by assumption) ?_
  rotate_left
  · intro Y hY; obtain ⟨y0, y1, y2, y3, y4, y5, y6⟩ := hY; go_simp; try with_reducible rfl
  intro hSB10
  try simp only [Act.put, List.getElem_toArray, List.getElem_cons_zero, List.getElem_cons_succ, List.setIfInBounds_toArray, List.set_cons_zero, List.set_cons_succ]
  refine wpAnyG_takeP (i := 11) (v := ?_) rfl (by kernel_rfl) (by kernel_rfl) (by kernel_rfl) (fun _ _ _ h => h) rfl (Or.inl ⟨by rfl, ?_⟩) (by assumption) ?_
  rotate_left
  · intro Y hY; obtain ⟨y0, y1, y2, y3, y4, y5, y6⟩ := hY; go_simp; try with_reducible rfl
  intro hSB11
  try simp only [Act.put, List.getElem_toArray, List.getElem_cons_zero, List.getElem_cons_succ, List.setIfInBounds_toArray, List.set_cons_zero, List.set_cons_succ]
  refine wpAnyG_takeP (i := 12) (v := ?_) rfl (by kernel_rfl) (by kernel_rfl) (by kernel_rfl) (fun _ _ _ h => h) rfl (Or.inl ⟨by rfl, ?_⟩) (by assumption) ?_
  rotate_left
  · intro Y hY; obtain ⟨y0, y1, y2, y3, y4, y5, y6⟩ := hY; go_simp; try with_reducible rfl
  intro hSB12
  try simp only [Act.put, List.getElem_toArray, List.getElem_cons_zero, List.getElem_cons_succ, List.setIfInBounds_toArray, List.set_cons_zero, List.set_cons_succ]
  refine wpAnyG_one (i := 6) (by kernel_rfl) rfl (fun K hK => ?_)
  refine step_wdoes_renamP _ (by rfl) _ _ _ _ _ _ (by rfl) _ _ _ (by rfl) (by rfl) (by rfl) (fun v W => v = .int .i64 er ∧ DoI w p q ⟨kind, nm, nt, nn, ad, ln, cp⟩ l Fp Gp W T S) (HP.out w1.drew H0.out.drew) ?_
  rintro v w2 ⟨rfl, h2⟩
  have H2 : Hid (DoI w p q ⟨kind, nm, nt, nn, ad, ln, cp⟩ l Fp Gp w2 T S) := h2
  clear h2
  refine hK.out _ _ (SB.on trivial H2.out.cells) (fun hSB6 => ?_)
  clear hK K
  try simp only [Act.put, List.getElem_toArray, List.getElem_cons_zero, List.getElem_cons_succ, List.setIfInBounds_toArray, List.set_cons_zero, List.set_cons_succ]
  refine wpAnyG_one (i := 13) (by kernel_rfl) rfl (fun K hK => ?_)
  refine step_wdoes_renamR _ (by rfl) _ _ _ _ _ _ (by rfl) _ _ _ (by rfl) (by rfl) (by rfl) (fun v W => v = .int .i64 er ∧ DoI w p q ⟨kind, nm, nt, nn, ad, ln, cp⟩ l Fp Gp W T T) (HR.out w2 H2.out) ?_
  rintro v w3 ⟨rfl, h3⟩
  have H3 : Hid (DoI w p q ⟨kind, nm, nt, nn, ad, ln, cp⟩ l Fp Gp w3 T T) := h3
  clear h3
  refine hK.out _ _ (SB.on trivial H3.out.cells) (fun hSB13 => ?_)
  clear hK K
  try simp only [Act.put, List.getElem_toArray, List.getElem_cons_zero, List.getElem_cons_succ, List.setIfInBounds_toArray, List.set_cons_zero, List.set_cons_succ]
  refine wpAnyG_takeP (i := 14) (v := ?_) rfl (by kernel_rfl) (by kernel_rfl) (by kernel_rfl) (fun _ _ _ h => h) rfl (Or.inl ⟨by rfl, ?_⟩) (by assumption) ?_
  rotate_left
  · intro Y hY; obtain ⟨y0, y1, y2, y3, y4, y5, y6⟩ := hY; go_simp; try with_reducible rfl
  intro hSB14
  try simp only [Act.put, List.getElem_toArray, List.getElem_cons_zero, List.getElem_cons_succ, List.setIfInBounds_toArray, List.set_cons_zero, List.set_cons_succ]
  try simp only [beq_self_eq_true]
  refine wpAnyG_takeP (i := 15) (v := ?_) rfl (by kernel_rfl) (by kernel_rfl) (by kernel_rfl) (fun _ _ _ h => h) rfl (Or.inl ⟨by rfl, ?_⟩) (by assumption) ?_
  rotate_left
  · intro Y hY; obtain ⟨y0, y1, y2, y3, y4, y5, y6⟩ := hY; go_simp; try with_reducible rfl
  intro hSB15
  try simp only [Act.put, List.getElem_toArray, List.getElem_cons_zero, List.getElem_cons_succ, List.setIfInBounds_toArray, List.set_cons_zero, List.set_cons_succ]
  refine wpAnyG_takeP (i := 16) (v := ?_) rfl (by kernel_rfl) (by kernel_rfl) (by kernel_rfl) (fun _ _ _ h => h) rfl (Or.inl ⟨by rfl, ?_⟩) (by assumption) ?_
  rotate_left
  · intro Y hY; obtain ⟨y0, y1, y2, y3, y4, y5, y6⟩ := hY; go_simp; try with_reducible rfl
  intro hSB16
  try simp only [Act.put, List.getElem_toArray, List.getElem_cons_zero, List.getElem_cons_succ, List.setIfInBounds_toArray, List.set_cons_zero, List.set_cons_succ]
  refine wpAnyG_takeP (i := 17) (v := ?_) rfl (by kernel_rfl) (by kernel_rfl) (by kernel_rfl) (fun _ _ _ h => h) rfl (Or.inl ⟨by rfl, ?_⟩) (by assumption) ?_
  rotate_left
  · intro Y hY; obtain ⟨y0, y1, y2, y3, y4, y5, y6⟩ := hY; go_simp; try with_reducible rfl
  intro hSB17
  try simp only [Act.put, List.getElem_toArray, List.getElem_cons_zero, List.getElem_cons_succ, List.setIfInBounds_toArray, List.set_cons_zero, List.set_cons_succ]
  refine wpAnyG_takeP (i := 18) (v := ?_) rfl (by kernel_rfl) (by kernel_rfl) (by kernel_rfl) (fun _ _ _ h => h) rfl (Or.inl ⟨by rfl, ?_⟩) (by assumption) ?_
  rotate_left
  · intro Y hY; obtain ⟨y0, y1, y2, y3, y4, y5, y6⟩ := hY; go_simp; try with_reducible rfl
  intro hSB18
  try simp only [Act.put, List.getElem_toArray, List.getElem_cons_zero, List.getElem_cons_succ, List.setIfInBounds_toArray, List.set_cons_zero, List.set_cons_succ]
  refine wpAnyG_one (i := 19) (by kernel_rfl) rfl (fun K hK => ?_)
  refine step_wfile _ (by rfl) _ _ _ _ (by rfl) _ _ (by rfl) (by rfl) (fun v W => v = .bool true ∧ DoI w p q ⟨kind, nm, nt, nn, ad, ln, cp⟩ l Fp Gp W T T) (H3.out.file HG.out nm HI.out.1) ?_
  rintro v w4 ⟨rfl, h4⟩
  have H4 : Hid (DoI w p q ⟨kind, nm, nt, nn, ad, ln, cp⟩ l Fp Gp w4 T T) := h4
  clear h4
  refine hK.out _ _ (SB.on trivial H4.out.cells) (fun hSB19 => ?_)
  clear hK K
  try simp only [Act.put, List.getElem_toArray, List.getElem_cons_zero, List.getElem_cons_succ, List.setIfInBounds_toArray, List.set_cons_zero, List.set_cons_succ]
  refine wpAnyG_takeP (i := 20) (v := ?_) rfl (by kernel_rfl) (by kernel_rfl) (by kernel_rfl) (fun _ _ _ h => h) rfl (Or.inl ⟨by rfl, ?_⟩) (by assumption) ?_
  rotate_left
  · intro Y hY; obtain ⟨y0, y1, y2, y3, y4, y5, y6⟩ := hY; go_simp; try with_reducible rfl
  intro hSB20
  try simp only [Act.put, List.getElem_toArray, List.getElem_cons_zero, List.getElem_cons_succ, List.setIfInBounds_toArray, List.set_cons_zero, List.set_cons_succ]
  refine wpAnyG_takeP (i := 21) (v := ?_) rfl (by kernel_rfl) (by kernel_rfl) (by kernel_rfl) (fun _ _ _ h => h) rfl (Or.inl ⟨by rfl, ?_⟩) (by assumption) ?_
  rotate_left
  · intro Y hY; obtain ⟨y0, y1, y2, y3, y4, y5, y6⟩ := hY; go_simp; try with_reducible rfl
  intro hSB21
  try simp only [Act.put, List.getElem_toArray, List.getElem_cons_zero, List.getElem_cons_succ, List.setIfInBounds_toArray, List.set_cons_zero, List.set_cons_succ]
  refine wpAnyG_takeP (i := 22) (v := ?_) rfl (by kernel_rfl) (by kernel_rfl) (by kernel_rfl) (fun _ _ _ h => h) rfl (Or.inl ⟨by rfl, ?_⟩) (by assumption) ?_
  rotate_left
  · intro Y hY; obtain ⟨y0, y1, y2, y3, y4, y5, y6⟩ := hY; go_simp; try with_reducible rfl
  intro hSB22
  try simp only [Act.put, List.getElem_toArray, List.getElem_cons_zero, List.getElem_cons_succ, List.setIfInBounds_toArray, List.set_cons_zero, List.set_cons_succ]
  refine wpAnyG_takeP (i := 23) (v := ?_) rfl (by kernel_rfl) (by kernel_rfl) (by kernel_rfl) (fun _ _ _ h => h) rfl (Or.inl ⟨by rfl, ?_⟩) (by assumption) ?_
  rotate_left
  · intro Y hY; obtain ⟨y0, y1, y2, y3, y4, y5, y6⟩ := hY; go_simp; try with_reducible rfl
  intro hSB23
  try simp only [Act.put, List.getElem_toArray, List.getElem_cons_zero, List.getElem_cons_succ, List.setIfInBounds_toArray, List.set_cons_zero, List.set_cons_succ]
  refine wpAnyG_takeP (i := 24) (v := ?_) rfl (by kernel_rfl) (by kernel_rfl) (by kernel_rfl) (fun _ _ _ h => h) rfl (Or.inl ⟨by rfl, ?_⟩) (by assumption) ?_
  rotate_left
  · intro Y hY; obtain ⟨y0, y1, y2, y3, y4, y5, y6⟩ := hY; go_simp; try with_reducible rfl
  intro hSB24
  try simp only [Act.put, List.getElem_toArray, List.getElem_cons_zero, List.getElem_cons_succ, List.setIfInBounds_toArray, List.set_cons_zero, List.set_cons_succ]
  refine wpAnyG_one (i := 25) (by kernel_rfl) rfl (fun K hK => ?_)
  refine step_wfile _ (by rfl) _ _ _ _ (by rfl) _ _ (by rfl) (by rfl) (fun v W => v = .bool true ∧ DoI w p q ⟨kind, nm, nt, nn, ad, ln, cp⟩ l Fp Gp W T T) (H4.out.file HG.out nt HI.out.2) ?_
  rintro v w5 ⟨rfl, h5⟩
  have H5 : Hid (DoI w p q ⟨kind, nm, nt, nn, ad, ln, cp⟩ l Fp Gp w5 T T) := h5
  clear h5
  refine hK.out _ _ (SB.on trivial H5.out.cells) (fun hSB25 => ?_)
  clear hK K
  try simp only [Act.put, List.getElem_toArray, List.getElem_cons_zero, List.getElem_cons_succ, List.setIfInBounds_toArray, List.set_cons_zero, List.set_cons_succ]
  refine wpAnyG_takeP (i := 26) (v := ?_) rfl (by kernel_rfl) (by kernel_rfl) (by kernel_rfl) (fun _ _ _ h => h) rfl (Or.inl ⟨by rfl, ?_⟩) (by assumption) ?_
  rotate_left
  · intro Y hY; obtain ⟨y0, y1, y2, y3, y4, y5, y6⟩ := hY; go_simp; try with_reducible rfl
  intro hSB26
  try simp only [Act.put, List.getElem_toArray, List.getElem_cons_zero, List.getElem_cons_succ, List.setIfInBounds_toArray, List.set_cons_zero, List.set_cons_succ]
  refine wpAnyG_one (i := 27) (by kernel_rfl) rfl (fun K hK => ?_)
  go_simp
  refine hK.out _ _ (SB.on trivial H5.out.cells) (fun hSB27 => ?_)
  clear hK K
  try simp only [Act.put, List.getElem_toArray, List.getElem_cons_zero, List.getElem_cons_succ, List.setIfInBounds_toArray, List.set_cons_zero, List.set_cons_succ]
  refine wpAnyG_done (by kernel_rfl) ?_ _
  clear hSB hSB0 hSB1 hSB2 hSB3 hSB4 hSB5 hSB6 hSB7 hSB8 hSB9 hSB10 hSB11 hSB12 hSB13 hSB14 hSB15 hSB16 hSB17 hSB18 hSB19 hSB20 hSB21 hSB22 hSB23 hSB24 hSB25 hSB26 hSB27
  have HE : Hid (DoOut w w5 p q (b + 4194305) Fp Gp) := H5.out.out HG.out
  clear H0 HP HR H2 H3 H4 H5
  go_wp2
  exact bodyPost_ret (v := .bool true) (by simp [results, Tryd.results11, go_sem]) rfl ⟨rfl, HE.out⟩

set_option maxRecDepth 20000 in
theorem step_wdoes_removP (w : World) {ops : Array Oper} {o : Oper} {a : Act} {K : Act → World → Prop} {Q : Exit → Act → World → Prop} {E : Prop} (hw : Region.wanted o (yielded ops a.tmps) = true) (x0 x1 : Nat) (ty0 ty1 : TypeId)
    (ho : o.op = .call { callee := .value (.func 27), args := #[.tmp x0, .tmp x1], argTypes := #[ty0, ty1] }) (vx0 vx1 : Value) (hx0 : a.tmps[x0]?.getD undef = vx0) (hx1 : a.tmps[x1]?.getD undef = vx1) (R : Value → World → Prop)
    (hc : Calls Tryd.prog 27 #[vx0, vx1] w fun e w' => ∃ v, e = .returned v ∧ R v w') (hK : ∀ v w', R v w' → K (a.put o.dst v) w') :
    if Region.wanted o (yielded ops a.tmps) = true then Oper.wp Tryd.prog o a w K Q else E := by
  rw [if_pos hw]
  unfold Oper.wp execOp
  simp [ho, resolve, invoke, go_sem, hx0, hx1]
  refine hc.mono ?_
  rintro e w' ⟨v, rfl, hR⟩
  have := hK v w' hR
  simpa [go_sem] using this
set_option maxRecDepth 20000 in
theorem step_wdoes_removR (w : World) {ops : Array Oper} {o : Oper} {a : Act} {K : Act → World → Prop} {Q : Exit → Act → World → Prop} {E : Prop} (hw : Region.wanted o (yielded ops a.tmps) = true) (x0 x1 : Nat) (ty0 ty1 : TypeId)
    (ho : o.op = .call { callee := .value (.func 28), args := #[.tmp x0, .tmp x1], argTypes := #[ty0, ty1] }) (vx0 vx1 : Value) (hx0 : a.tmps[x0]?.getD undef = vx0) (hx1 : a.tmps[x1]?.getD undef = vx1) (R : Value → World → Prop)
    (hc : Calls Tryd.prog 28 #[vx0, vx1] w fun e w' => ∃ v, e = .returned v ∧ R v w') (hK : ∀ v w', R v w' → K (a.put o.dst v) w') :
    if Region.wanted o (yielded ops a.tmps) = true then Oper.wp Tryd.prog o a w K Q else E := by
  rw [if_pos hw]
  unfold Oper.wp execOp
  simp [ho, resolve, invoke, go_sem, hx0, hx1]
  refine hc.mono ?_
  rintro e w' ⟨v, rfl, hR⟩
  have := hK v w' hR
  simpa [go_sem] using this
set_option maxRecDepth 100000 in
set_option maxHeartbeats 8000000 in
theorem wdoes_remov (w : World) (p q : Nat) (kind nn : Int) (nm nt : ByteArray) (ad : Option Addr) (ln cp : Nat) (l : List UInt8) (S : DG) (b : Nat) (Fp Gp : Nat → Prop) (h : Pair2 w p q S Fp Gp) (hi : OpIn w ⟨kind, nm, nt, nn, ad, ln, cp⟩ l Fp Gp) (hg : Good S b) (hb : b ≤ 1000000000) (hk : (IntKind.u64.wrap kind).tmod 9 = 3) :
    Calls Tryd.prog 11 #[.agg #[.pointer (some ⟨p, 0, none⟩), .pointer (some ⟨q, 0, none⟩)], .agg #[.int .i64 kind, .string nm, .string nt, .int .i64 nn, .slice ad ln cp]] w fun e w' => e = .returned (.bool true) ∧ DoOut w w' p q (b + 4194305) Fp Gp := by
  have hmx : Tryd.prog.follows .mixedOrders = true := by kernel_rfl
  have H0 : Hid (DoI w p q ⟨kind, nm, nt, nn, ad, ln, cp⟩ l Fp Gp ((w.alloc (.cells #[.pointer (some ⟨p, 0, none⟩), .pointer (some ⟨q, 0, none⟩)] 29)).alloc (.cells #[.int .i64 kind, .string nm, .string nt, .int .i64 nn, .slice ad ln cp] 34)) S S) := ⟨_, _, DoP.start h hi⟩
  have HG : Hid (Good (S.remove nm.data.toList).1 (b + 4194305)) := hg.remove nm
  have HI : Hid (nm.size ≤ maxLen ∧ nt.size ≤ maxLen) := ⟨hi.name, hi.tsz⟩
  have hn := hg.fine.n
  have hw : S.wr < 4000000000000000000 := by have := hg.fine.wr; omega
  have HP : Hid (∀ W, DoI w p q ⟨kind, nm, nt, nn, ad, ln, cp⟩ l Fp Gp W S S → Calls Tryd.prog 27 #[.pointer (some ⟨p, 0, none⟩), .string nm] W fun e w' => ∃ u, e = .returned u ∧ (u = .int .i64 (S.remove nm.data.toList).2 ∧ DoI w p q ⟨kind, nm, nt, nn, ad, ln, cp⟩ l Fp Gp w' (S.remove nm.data.toList).1 S)) := fun W hW => hW.prog fun F hF => remove_any p S F W nm hF hi.name (by omega)
  have HR : Hid (∀ W, DoI w p q ⟨kind, nm, nt, nn, ad, ln, cp⟩ l Fp Gp W (S.remove nm.data.toList).1 S → Calls Tryd.prog 28 #[.pointer (some ⟨q, 0, none⟩), .string nm] W fun e w' => ∃ u, e = .returned u ∧ (u = .int .i64 (S.remove nm.data.toList).2 ∧ DoI w p q ⟨kind, nm, nt, nn, ad, ln, cp⟩ l Fp Gp w' (S.remove nm.data.toList).1 (S.remove nm.data.toList).1)) := fun W hW => hW.refr fun F hF => rremove_any q S F W nm hF (by omega) (by omega) hg.lm
  generalize (S.remove nm.data.toList) = T at *
  obtain ⟨T, er⟩ := T
  simp only at HP HR HG
  clear h hi hg hb hn hw
  obtain ⟨c0, c1, c2, c3, c4, c5, c6⟩ := H0.out.cells
  go_enter Tryd.func11, Tryd.ntmps11
  go_upto_region 18 with fail
  clear c0 c1 c2 c3 c4 c5 c6
  generalize ((w.alloc (.cells #[.pointer (some ⟨p, 0, none⟩), .pointer (some ⟨q, 0, none⟩)] 29)).alloc (.cells #[.int .i64 kind, .string nm, .string nt, .int .i64 nn, .slice ad ln cp] 34)) = w1 at *
  refine wp_region_G (S := SB 1000 (fun _ => True) (fun W => W.cell? ⟨w.heap.size, 0, none⟩ = some (.pointer (some ⟨p, 0, none⟩)) ∧ W.cell? ⟨w.heap.size, 1, none⟩ = some (.pointer (some ⟨q, 0, none⟩)) ∧ W.cell? ⟨w.heap.size + 1, 0, none⟩ = some (.int .i64 kind) ∧ W.cell? ⟨w.heap.size + 1, 1, none⟩ = some (.string nm) ∧ W.cell? ⟨w.heap.size + 1, 2, none⟩ = some (.string nt) ∧ W.cell? ⟨w.heap.size + 1, 3, none⟩ = some (.int .i64 nn) ∧ W.cell? ⟨w.heap.size + 1, 4, none⟩ = some (.slice ad ln cp))) hmx ?_
  have hSB : SB 1000 (fun _ => True) (fun W : World => W.cell? ⟨w.heap.size, 0, none⟩ = some (.pointer (some ⟨p, 0, none⟩)) ∧ W.cell? ⟨w.heap.size, 1, none⟩ = some (.pointer (some ⟨q, 0, none⟩)) ∧ W.cell? ⟨w.heap.size + 1, 0, none⟩ = some (.int .i64 kind) ∧ W.cell? ⟨w.heap.size + 1, 1, none⟩ = some (.string nm) ∧ W.cell? ⟨w.heap.size + 1, 2, none⟩ = some (.string nt) ∧ W.cell? ⟨w.heap.size + 1, 3, none⟩ = some (.int .i64 nn) ∧ W.cell? ⟨w.heap.size + 1, 4, none⟩ = some (.slice ad ln cp)) (Array.replicate 18 false) w1.drew := SB.on trivial H0.out.drew.cells
  refine wpAnyG_takeP (i := 0) (v := ?_) rfl (by kernel_rfl) (by kernel_rfl) (by kernel_rfl) (fun _ _ _ h => h) rfl (Or.inl ⟨by rfl, ?_⟩) (by assumption) ?_
  rotate_left
  · intro Y hY; obtain ⟨y0, y1, y2, y3, y4, y5, y6⟩ := hY; go_simp; try with_reducible rfl
  intro hSB0
  try simp only [Act.put, List.getElem_toArray, List.getElem_cons_zero, List.setIfInBounds_toArray, List.set_cons_zero, List.set_cons_succ]
  refine wpAnyG_takeP (i := 1) (v := ?_) rfl (by kernel_rfl) (by kernel_rfl) (by kernel_rfl) (fun _ _ _ h => h) rfl (Or.inl ⟨by rfl, ?_⟩) (by assumption) ?_
  rotate_left
  · intro Y hY; obtain ⟨y0, y1, y2, y3, y4, y5, y6⟩ := hY; go_simp; try with_reducible rfl
  intro hSB1
  try simp only [Act.put, List.getElem_toArray, List.getElem_cons_zero, List.getElem_cons_succ, List.setIfInBounds_toArray, List.set_cons_zero, List.set_cons_succ]
  refine wpAnyG_takeP (i := 2) (v := ?_) rfl (by kernel_rfl) (by kernel_rfl) (by kernel_rfl) (fun _ _ _ h => h) rfl (Or.inl ⟨by rfl, ?_⟩) (by assumption) ?_
  rotate_left
  · intro Y hY; obtain ⟨y0, y1, y2, y3, y4, y5, y6⟩ := hY; go_simp; try with_reducible rfl
  intro hSB2
  try simp only [Act.put, List.getElem_toArray, List.getElem_cons_zero, List.getElem_cons_succ, List.setIfInBounds_toArray, List.set_cons_zero, List.set_cons_succ]
  refine wpAnyG_takeP (i := 3) (v := ?_) rfl (by kernel_rfl) (by kernel_rfl) (by kernel_rfl) (fun _ _ _ h => h) rfl (Or.inl ⟨by rfl, ?_⟩) (by assumption) ?_
  rotate_left
  · intro Y hY; obtain ⟨y0, y1, y2, y3, y4, y5, y6⟩ := hY; go_simp; try with_reducible rfl
  intro hSB3
  try simp only [Act.put, List.getElem_toArray, List.getElem_cons_zero, List.getElem_cons_succ, List.setIfInBounds_toArray, List.set_cons_zero, List.set_cons_succ]
  refine wpAnyG_takeP (i := 5) (v := ?_) rfl (by kernel_rfl) (by kernel_rfl) (by kernel_rfl) (fun _ _ _ h => h) rfl (Or.inl ⟨by rfl, ?_⟩) (by assumption) ?_
  rotate_left
  · intro Y hY; obtain ⟨y0, y1, y2, y3, y4, y5, y6⟩ := hY; go_simp; try with_reducible rfl
  intro hSB5
  try simp only [Act.put, List.getElem_toArray, List.getElem_cons_zero, List.getElem_cons_succ, List.setIfInBounds_toArray, List.set_cons_zero, List.set_cons_succ]
  refine wpAnyG_takeP (i := 6) (v := ?_) rfl (by kernel_rfl) (by kernel_rfl) (by kernel_rfl) (fun _ _ _ h => h) rfl (Or.inl ⟨by rfl, ?_⟩) (by assumption) ?_
  rotate_left
  · intro Y hY; obtain ⟨y0, y1, y2, y3, y4, y5, y6⟩ := hY; go_simp; try with_reducible rfl
  intro hSB6
  try simp only [Act.put, List.getElem_toArray, List.getElem_cons_zero, List.getElem_cons_succ, List.setIfInBounds_toArray, List.set_cons_zero, List.set_cons_succ]
  refine wpAnyG_takeP (i := 7) (v := ?_) rfl (by kernel_rfl) (by kernel_rfl) (by kernel_rfl) (fun _ _ _ h => h) rfl (Or.inl ⟨by rfl, ?_⟩) (by assumption) ?_
  rotate_left
  · intro Y hY; obtain ⟨y0, y1, y2, y3, y4, y5, y6⟩ := hY; go_simp; try with_reducible rfl
  intro hSB7
  try simp only [Act.put, List.getElem_toArray, List.getElem_cons_zero, List.getElem_cons_succ, List.setIfInBounds_toArray, List.set_cons_zero, List.set_cons_succ]
  refine wpAnyG_takeP (i := 8) (v := ?_) rfl (by kernel_rfl) (by kernel_rfl) (by kernel_rfl) (fun _ _ _ h => h) rfl (Or.inl ⟨by rfl, ?_⟩) (by assumption) ?_
  rotate_left
  · intro Y hY; obtain ⟨y0, y1, y2, y3, y4, y5, y6⟩ := hY; go_simp; try with_reducible rfl
  intro hSB8
  try simp only [Act.put, List.getElem_toArray, List.getElem_cons_zero, List.getElem_cons_succ, List.setIfInBounds_toArray, List.set_cons_zero, List.set_cons_succ]
  refine wpAnyG_one (i := 4) (by kernel_rfl) rfl (fun K hK => ?_)
  refine step_wdoes_removP _ (by rfl) _ _ _ _ (by rfl) _ _ (by rfl) (by rfl) (fun v W => v = .int .i64 er ∧ DoI w p q ⟨kind, nm, nt, nn, ad, ln, cp⟩ l Fp Gp W T S) (HP.out w1.drew H0.out.drew) ?_
  rintro v w2 ⟨rfl, h2⟩
  have H2 : Hid (DoI w p q ⟨kind, nm, nt, nn, ad, ln, cp⟩ l Fp Gp w2 T S) := h2
  clear h2
  refine hK.out _ _ (SB.on trivial H2.out.cells) (fun hSB4 => ?_)
  clear hK K
  try simp only [Act.put, List.getElem_toArray, List.getElem_cons_zero, List.getElem_cons_succ, List.setIfInBounds_toArray, List.set_cons_zero, List.set_cons_succ]
  refine wpAnyG_one (i := 9) (by kernel_rfl) rfl (fun K hK => ?_)
  refine step_wdoes_removR _ (by rfl) _ _ _ _ (by rfl) _ _ (by rfl) (by rfl) (fun v W => v = .int .i64 er ∧ DoI w p q ⟨kind, nm, nt, nn, ad, ln, cp⟩ l Fp Gp W T T) (HR.out w2 H2.out) ?_
  rintro v w3 ⟨rfl, h3⟩
  have H3 : Hid (DoI w p q ⟨kind, nm, nt, nn, ad, ln, cp⟩ l Fp Gp w3 T T) := h3
  clear h3
  refine hK.out _ _ (SB.on trivial H3.out.cells) (fun hSB9 => ?_)
  clear hK K
  try simp only [Act.put, List.getElem_toArray, List.getElem_cons_zero, List.getElem_cons_succ, List.setIfInBounds_toArray, List.set_cons_zero, List.set_cons_succ]
  refine wpAnyG_takeP (i := 10) (v := ?_) rfl (by kernel_rfl) (by kernel_rfl) (by kernel_rfl) (fun _ _ _ h => h) rfl (Or.inl ⟨by rfl, ?_⟩) (by assumption) ?_
  rotate_left
  · intro Y hY; obtain ⟨y0, y1, y2, y3, y4, y5, y6⟩ := hY; go_simp; try with_reducible rfl
  intro hSB10
  try simp only [Act.put, List.getElem_toArray, List.getElem_cons_zero, List.getElem_cons_succ, List.setIfInBounds_toArray, List.set_cons_zero, List.set_cons_succ]
  try simp only [beq_self_eq_true]
  refine wpAnyG_takeP (i := 11) (v := ?_) rfl (by kernel_rfl) (by kernel_rfl) (by kernel_rfl) (fun _ _ _ h => h) rfl (Or.inl ⟨by rfl, ?_⟩) (by assumption) ?_
  rotate_left
  · intro Y hY; obtain ⟨y0, y1, y2, y3, y4, y5, y6⟩ := hY; go_simp; try with_reducible rfl
  intro hSB11
  try simp only [Act.put, List.getElem_toArray, List.getElem_cons_zero, List.getElem_cons_succ, List.setIfInBounds_toArray, List.set_cons_zero, List.set_cons_succ]
  refine wpAnyG_takeP (i := 12) (v := ?_) rfl (by kernel_rfl) (by kernel_rfl) (by kernel_rfl) (fun _ _ _ h => h) rfl (Or.inl ⟨by rfl, ?_⟩) (by assumption) ?_
  rotate_left
  · intro Y hY; obtain ⟨y0, y1, y2, y3, y4, y5, y6⟩ := hY; go_simp; try with_reducible rfl
  intro hSB12
  try simp only [Act.put, List.getElem_toArray, List.getElem_cons_zero, List.getElem_cons_succ, List.setIfInBounds_toArray, List.set_cons_zero, List.set_cons_succ]
  refine wpAnyG_takeP (i := 13) (v := ?_) rfl (by kernel_rfl) (by kernel_rfl) (by kernel_rfl) (fun _ _ _ h => h) rfl (Or.inl ⟨by rfl, ?_⟩) (by assumption) ?_
  rotate_left
  · intro Y hY; obtain ⟨y0, y1, y2, y3, y4, y5, y6⟩ := hY; go_simp; try with_reducible rfl
  intro hSB13
  try simp only [Act.put, List.getElem_toArray, List.getElem_cons_zero, List.getElem_cons_succ, List.setIfInBounds_toArray, List.set_cons_zero, List.set_cons_succ]
  refine wpAnyG_takeP (i := 14) (v := ?_) rfl (by kernel_rfl) (by kernel_rfl) (by kernel_rfl) (fun _ _ _ h => h) rfl (Or.inl ⟨by rfl, ?_⟩) (by assumption) ?_
  rotate_left
  · intro Y hY; obtain ⟨y0, y1, y2, y3, y4, y5, y6⟩ := hY; go_simp; try with_reducible rfl
  intro hSB14
  try simp only [Act.put, List.getElem_toArray, List.getElem_cons_zero, List.getElem_cons_succ, List.setIfInBounds_toArray, List.set_cons_zero, List.set_cons_succ]
  refine wpAnyG_one (i := 15) (by kernel_rfl) rfl (fun K hK => ?_)
  refine step_wfile _ (by rfl) _ _ _ _ (by rfl) _ _ (by rfl) (by rfl) (fun v W => v = .bool true ∧ DoI w p q ⟨kind, nm, nt, nn, ad, ln, cp⟩ l Fp Gp W T T) (H3.out.file HG.out nm HI.out.1) ?_
  rintro v w4 ⟨rfl, h4⟩
  have H4 : Hid (DoI w p q ⟨kind, nm, nt, nn, ad, ln, cp⟩ l Fp Gp w4 T T) := h4
  clear h4
  refine hK.out _ _ (SB.on trivial H4.out.cells) (fun hSB15 => ?_)
  clear hK K
  try simp only [Act.put, List.getElem_toArray, List.getElem_cons_zero, List.getElem_cons_succ, List.setIfInBounds_toArray, List.set_cons_zero, List.set_cons_succ]
  refine wpAnyG_takeP (i := 16) (v := ?_) rfl (by kernel_rfl) (by kernel_rfl) (by kernel_rfl) (fun _ _ _ h => h) rfl (Or.inl ⟨by rfl, ?_⟩) (by assumption) ?_
  rotate_left
  · intro Y hY; obtain ⟨y0, y1, y2, y3, y4, y5, y6⟩ := hY; go_simp; try with_reducible rfl
  intro hSB16
  try simp only [Act.put, List.getElem_toArray, List.getElem_cons_zero, List.getElem_cons_succ, List.setIfInBounds_toArray, List.set_cons_zero, List.set_cons_succ]
  refine wpAnyG_one (i := 17) (by kernel_rfl) rfl (fun K hK => ?_)
  go_simp
  refine hK.out _ _ (SB.on trivial H4.out.cells) (fun hSB17 => ?_)
  clear hK K
  try simp only [Act.put, List.getElem_toArray, List.getElem_cons_zero, List.getElem_cons_succ, List.setIfInBounds_toArray, List.set_cons_zero, List.set_cons_succ]
  refine wpAnyG_done (by kernel_rfl) ?_ _
  clear hSB hSB0 hSB1 hSB2 hSB3 hSB4 hSB5 hSB6 hSB7 hSB8 hSB9 hSB10 hSB11 hSB12 hSB13 hSB14 hSB15 hSB16 hSB17
  have HE : Hid (DoOut w w4 p q (b + 4194305) Fp Gp) := H4.out.out HG.out
  clear H0 HP HR H2 H3 H4
  go_wp2
  exact bodyPost_ret (v := .bool true) (by simp [results, Tryd.results11, go_sem]) rfl ⟨rfl, HE.out⟩

end Go.Proofs.YtcbmofapnjdmgaaDoor
